package hunt

import (
	"slices"
	"sort"

	"sluice/api"
	"sluice/code"
	"sluice/guard"
	"sluice/plan"
)

// isPlace: is it a place in a list of that length? A plan that somebody else made may say any number.
func isPlace(at, length int) bool { return at >= 0 && at < length }

// isLog: is it strictly rising by name, and all of it in the stream?
func isLog(p api.Plan, log []api.Event) bool {
	for i, e := range log {
		if !plan.InStream(p, e) || i > 0 && !log[i-1].Before(e) {
			return false
		}
	}
	return true
}

// isFilled: has the binding for each component a list, and an event in each?
func isFilled(p api.Plan, b api.Binding) bool {
	for _, list := range b {
		if len(list) == 0 {
			return false
		}
	}
	return len(b) > 0 && len(b) == len(p.Comps)
}

// ranksOf: the places in the log of the flattened binding's events; false: one of them is no event of the log, or is not behind the one ahead of it.
func ranksOf(log []api.Event, b api.Binding) ([]int, bool) {
	var ranks []int
	from := 0
	for _, e := range slices.Concat(b...) {
		rank := from + sort.Search(len(log)-from, func(i int) bool { return !log[from+i].Before(e) })
		if rank == len(log) || log[rank] != e {
			return nil, false
		}
		ranks = append(ranks, rank)
		from = rank + 1
	}
	return ranks, true
}

// ends: the first and the last event of a binding that is filled.
func ends(b api.Binding) (first, last api.Event) {
	list := b[len(b)-1]
	return b[0][0], list[len(list)-1]
}

func isInTime(p api.Plan, b api.Binding) bool {
	first, last := ends(b)
	return isWithin(first.Ts, last.Ts, p.Query.Within)
}

// isWithin: is a time at most the window behind one that is not later? Their difference may not fit into an int64, but always fits into a uint64.
func isWithin(earlier, later, window int64) bool {
	return uint64(later)-uint64(earlier) <= uint64(window)
}

// isTaken: has each component a list of a length that it may have, and takes it each event?
func isTaken(p api.Plan, b api.Binding) bool {
	for comp, list := range b {
		if len(list) < p.Comps[comp].Lo || len(list) > p.Comps[comp].Hi {
			return false
		}
		for _, e := range list {
			if !plan.Takes(p, comp, e) {
				return false
			}
		}
	}
	return true
}

// isTrue: is each condition true that mentions no negated item?
func isTrue(p api.Plan, b api.Binding) bool {
	lists := plan.Spread(p, b)
	for _, c := range p.Comps {
		for _, cond := range c.Conds {
			if !code.Every(cond, lists) {
				return false
			}
		}
	}
	return areTrue(p.Fixed)
}

// areTrue: is each program true that asks for no event?
func areTrue(programs []api.Program) bool {
	for _, program := range programs {
		if !code.Holds(program, api.Env{Each: once}) {
			return false
		}
	}
	return true
}

// keepsMode: does the mode let what stands between each two neighbours of the binding, whose events have these places in the log?
func keepsMode(p api.Plan, log []api.Event, b api.Binding, ranks []int) bool {
	at := 0
	for comp, list := range b {
		for range list {
			if at > 0 && !maySkip(p, comp, log[ranks[at-1]+1:ranks[at]]) {
				return false
			}
			at++
		}
	}
	return true
}

// maySkip: may these events stand immediately ahead of one of the component's, and not be bound?
func maySkip(p api.Plan, comp int, between []api.Event) bool {
	switch p.Query.Mode {
	case api.ModeNext:
		return !slices.ContainsFunc(between, func(e api.Event) bool { return plan.Takes(p, comp, e) })
	case api.ModeStrict:
		return len(between) == 0
	}
	return true
}

// guardsOf: guards that have been told a log.
func guardsOf(p api.Plan, log []api.Event) *guard.Guards {
	g := guard.New(p)
	for _, e := range log {
		g.Add(e)
	}
	return g
}

// isKilled: does an event kill the binding by a negation that does not trail? What a trailing one looks at may come yet: it is asked when the match is decided.
func isKilled(p api.Plan, g *guard.Guards, b api.Binding) bool {
	for neg, n := range p.Negs {
		if n.Before != len(p.Comps) && g.Blocked(neg, b) {
			return true
		}
	}
	return false
}

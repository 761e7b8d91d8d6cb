package shard

import (
	"math"
	"slices"
	"sort"

	"sluice/api"
	"sluice/event"
	"sluice/plan"
)

// Restore: the partitions at a watermark, from the events that are kept, the matches that wait and the names by which matches are passed over; false: they cannot be.
func Restore(p api.Plan, mark int64, kept []api.Event, waiting []api.Match, used []api.Name) (*Shards, bool) {
	// The search for what the events complete comes last: it may be long, and most of what cannot be is seen without it.
	if mark < api.NoMark || !canBeKept(p, mark, kept) || !canBeUsed(p, mark, kept, used) || !isRising(waiting) {
		return nil, false
	}
	s := New(p)
	for _, e := range kept {
		s.take(e)
	}
	s.mark = mark
	for _, n := range used {
		e, _ := find(kept, n)
		s.parts[plan.Key(p, e)].used.add(n)
	}
	if !s.letWait(waiting) {
		return nil, false
	}
	return s, true
}

// canBeKept: may just these events be kept at the mark?
func canBeKept(p api.Plan, mark int64, kept []api.Event) bool {
	for i, e := range kept {
		if !isOfStream(p, e) || e.Ts <= mark-p.Query.Within || i > 0 && !kept[i-1].Before(e) {
			return false
		}
	}
	return true
}

// canBeUsed: may these names of kept events be used at the mark?
func canBeUsed(p api.Plan, mark int64, kept []api.Event, used []api.Name) bool {
	if p.Query.After == api.AfterAll && len(used) > 0 {
		return false
	}
	keys := map[int64]struct{}{}
	for i, n := range used {
		e, ok := find(kept, n)
		if !ok || n.Ts > mark || i > 0 && !used[i-1].Before(n) {
			return false
		}
		keys[plan.Key(p, e)] = struct{}{}
	}
	return p.Query.After != api.AfterPast || len(keys) == len(used)
}

// find: the event of that name, of events in their order; false: there is none.
func find(kept []api.Event, n api.Name) (api.Event, bool) {
	at, ok := slices.BinarySearchFunc(kept, n, func(e api.Event, n api.Name) int { return event.Compare(e.Name(), n) })
	if !ok {
		return api.Event{}, false
	}
	return kept[at], true
}

// isRising: is each match before the next one?
func isRising(l []api.Match) bool {
	for i := 1; i < len(l); i++ {
		if !l[i-1].Before(l[i]) {
			return false
		}
	}
	return true
}

// letWait: of all matches of the kept events just those of the list wait, which is in their order; false: one that it has is none, or one that it has not cannot be missing.
func (s *Shards) letWait(waiting []api.Match) bool {
	count := 0
	for _, x := range s.parts {
		if !x.letWait(s.mark, waiting) {
			return false
		}
		count += x.due.Len()
	}
	return count == len(waiting)
}

// letWait: the same of one partition's matches; false: one that the list has not cannot be missing.
func (x *partition) letWait(mark int64, waiting []api.Match) bool {
	for _, w := range x.due.Take(math.MaxInt64) {
		switch {
		case w.Decide <= mark || x.isKilled(w):
		case isAmong(waiting, w.Match):
			x.due.Add(w)
		case !x.canBeMissing(mark, w.Match):
			return false
		}
	}
	return true
}

// canBeMissing: may the match have been killed by an event that is no longer kept? A leading negation looks at events as old as the match's last one less the window: if that one is above the mark, they are all kept.
func (x *partition) canBeMissing(mark int64, m api.Match) bool {
	return x.plan.Lead && m.Names[len(m.Names)-1].Ts <= mark
}

// isAmong: does the list, which is in its order, have that match, with just these results?
func isAmong(l []api.Match, m api.Match) bool {
	at := sort.Search(len(l), func(i int) bool { return !l[i].Before(m) })
	return at < len(l) && !m.Before(l[at]) && slices.Equal(l[at].Vals, m.Vals)
}

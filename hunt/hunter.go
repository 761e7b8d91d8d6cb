package hunt

import (
	"slices"

	"sluice/api"
	"sluice/code"
	"sluice/guard"
	"sluice/stacks"
)

// hunter: what a search has bound so far, from the last component on back.
type hunter struct {
	plan   api.Plan
	stacks *stacks.Stacks
	newest api.Inst      // the log's last event, in the last component's stack
	bound  api.Binding   // by component
	lists  [][]api.Event // the same by item, as conditions are asked
}

// newHunter: nothing is bound; false: there is nothing to search for.
func newHunter(p api.Plan, s *stacks.Stacks, g *guard.Guards) (*hunter, bool) {
	if s == nil || g == nil {
		return nil, false
	}
	comp := len(p.Comps) - 1
	newest, ok := s.At(comp, s.Depth(comp)-1)
	if !ok || newest.Rank != s.Len()-1 || !areTrue(p.Fixed) {
		return nil, false
	}
	return &hunter{
		plan:   p,
		stacks: s,
		newest: newest,
		bound:  make(api.Binding, len(p.Comps)),
		lists:  make([][]api.Event, len(p.Query.Items)),
	}, true
}

// last: the last component, the place of the newest event in its stack, and the rank ahead of which nothing may be bound there.
func (h *hunter) last() (comp, at, rank int) {
	comp = len(h.plan.Comps) - 1
	return comp, h.stacks.Depth(comp) - 1, h.newest.Rank
}

// lay makes a list that which is bound for a component. It need not be copied: no list is ever written into.
func (h *hunter) lay(comp int, list []api.Event) {
	h.bound[comp] = list
	if item := h.plan.Comps[comp].Item; isPlace(item, len(h.lists)) {
		h.lists[item] = list
	}
}

// hasRoom: may the component have one more event?
func (h *hunter) hasRoom(comp int) bool { return len(h.bound[comp]) < h.plan.Comps[comp].Hi }

// isLost: is a condition not true that never will be, whatever is bound ahead?
func (h *hunter) isLost(comp int) bool {
	c := h.plan.Comps[comp]
	return slices.ContainsFunc(c.Conds, func(cond api.Cond) bool { return !asksForAll(c, cond) && !code.Every(cond, h.lists) })
}

// isDecided: has the component enough events, and is each condition true that had to wait for all of them?
func (h *hunter) isDecided(comp int) bool {
	c := h.plan.Comps[comp]
	return len(h.bound[comp]) >= c.Lo && !slices.ContainsFunc(c.Conds, func(cond api.Cond) bool { return asksForAll(c, cond) && !code.Every(cond, h.lists) })
}

// asksForAll: does the condition take an aggregate of the component's events? Any other one asks the same of each of them, however many are bound ahead of it.
func asksForAll(c api.Comp, cond api.Cond) bool {
	return slices.ContainsFunc(cond.Prog.Code, func(in api.Instr) bool {
		return in.Item == c.Item && in.Code >= api.CodeCount && in.Code <= api.CodeLast
	})
}

// reachesBack: with so many events of the component bound behind this instance, can all that is wanted ahead of it be bound within the window? It can just if it can with the latest instances that there are. So the search goes into no branch that lacks events further ahead, however many it has behind them; and where one instance is too old, all ahead of it are.
func (h *hunter) reachesBack(comp, at, behind int) bool {
	wanted := max(0, h.plan.Comps[comp].Lo-behind-1)
	x, ok := h.stacks.At(comp, at-wanted)
	if !ok || comp == 0 {
		return ok && isWithin(x.Event.Ts, h.newest.Event.Ts, h.plan.Query.Within)
	}
	return h.reachesBack(comp-1, x.Prev-1, 0)
}

// leastAhead: by the mode, the least rank of an event that may stand next ahead of the instance of that rank. Each event that the component takes has an instance: so with NEXT it is that of the instance ahead of this one (of the zero instance, 0, if there is none).
func (h *hunter) leastAhead(comp, at, rank int) int {
	switch h.plan.Query.Mode {
	case api.ModeNext:
		taken, _ := h.stacks.At(comp, at-1)
		return taken.Rank
	case api.ModeStrict:
		return rank - 1
	}
	return 0
}

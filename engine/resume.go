package engine

import (
	"sluice/api"
	"sluice/event"
	"sluice/gate"
	"sluice/plan"
	"sluice/shard"
	"sluice/show"
)

// Resume: an engine in a state.
func Resume(st api.State) (*Engine, api.Errno) {
	p, ok := planOf(st)
	if !ok {
		return nil, api.ErrState
	}
	// The gate is asked ahead of the events: it takes no more of them than the capacity says.
	g, code := gate.Restore(st.Cap, st.Mark, st.Closed, st.Held)
	if code != api.OK || !areOfSchema(st.Schema, st.Held) || !canBeKept(st) {
		return nil, api.ErrState
	}
	s, ok := shard.Restore(p, st.Mark, st.Kept, st.Waiting, st.Used)
	if !ok {
		return nil, api.ErrState
	}
	return &Engine{plan: p, capacity: st.Cap, gate: g, shards: s}, api.OK
}

// planOf: the plan of a state's query; false: there is none, or the query has no text.
func planOf(st api.State) (api.Plan, bool) {
	if _, code := show.Print(st.Query); code != api.OK {
		return api.Plan{}, false
	}
	p, flaw := plan.Build(st.Schema, st.Query)
	return p, flaw.Code == api.OK
}

// areOfSchema: is each of them an event of the schema?
func areOfSchema(s api.Schema, events []api.Event) bool {
	for _, e := range events {
		if event.CheckEvent(s, e) != api.OK {
			return false
		}
	}
	return true
}

// canBeKept: may just what is at or below the mark be kept, and nothing behind a Flush? All else is asked by the partitions, which could keep events above their mark. (What waits or is used are events that are kept: behind a Flush that leaves none.)
func canBeKept(st api.State) bool {
	if st.Closed {
		return len(st.Kept) == 0
	}
	for _, e := range st.Kept {
		if e.Ts > st.Mark {
			return false
		}
	}
	return true
}

package shard

import (
	"sluice/api"
	"sluice/due"
	"sluice/guard"
	"sluice/hunt"
	"sluice/stacks"
)

// partition: the events of one key, the matches of them that wait, and the names by which others are passed over.
type partition struct {
	plan   api.Plan
	stacks *stacks.Stacks
	guards *guard.Guards
	due    *due.Due // those too that a trailing negation has killed by now: it is asked when they are told
	used   *used
}

func newPartition(p api.Plan) *partition {
	return &partition{plan: p, stacks: stacks.New(p), guards: guard.New(p), due: due.New(), used: newUsed(p.Query.After)}
}

// take lays an event behind all others, and lets the matches that it completes wait.
func (x *partition) take(e api.Event) {
	x.stacks.Add(e)
	x.guards.Add(e)
	for b := range hunt.Each(x.plan, x.stacks, x.guards) {
		x.due.Add(api.Waiting{Match: hunt.Finish(x.plan, b), Bound: b})
	}
}

// tell: of the matches that are decided up to a mark those that are told, in their order.
func (x *partition) tell(mark int64) []api.Match {
	var out []api.Match
	for _, w := range x.due.Take(mark) {
		if !x.isKilled(w) && !x.used.passesOver(w.Match) {
			x.used.note(w.Match)
			out = append(out, w.Match)
		}
	}
	return out
}

// left: the matches that wait and are not killed, in their order.
func (x *partition) left() []api.Match {
	var out []api.Match
	for _, w := range x.due.List() {
		if !x.isKilled(w) {
			out = append(out, w.Match)
		}
	}
	return out
}

// isKilled: does an event kill the match by a trailing negation? Whether by another one was asked when the match was completed. As long as it waits, no event of the range is dropped: none is older than the match's first event.
func (x *partition) isKilled(w api.Waiting) bool {
	for neg, n := range x.plan.Negs {
		if n.Before == len(x.plan.Comps) && x.guards.Blocked(neg, w.Bound) {
			return true
		}
	}
	return false
}

// drop drops what has a timestamp at or below a bound.
func (x *partition) drop(bound int64) {
	x.stacks.Prune(bound)
	x.guards.Prune(bound)
	x.used.drop(bound)
}

// isEmpty: is no event kept? Then no match waits and no name is used either: their events would be kept.
func (x *partition) isEmpty() bool { return x.stacks.Len() == 0 }

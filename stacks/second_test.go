package stacks_test

import (
	"slices"
	"testing"

	"sluice/api"
	"sluice/plan"
	"sluice/stacks"
)

// second: other stacks: all events that were ever taken, and all bounds that were ever given. What is left of them is looked up each time.
type second struct {
	plan   api.Plan
	taken  []api.Event
	bounds []int64
}

// isPast: is a time at or below one of the bounds?
func (s *second) isPast(ts int64) bool {
	return slices.ContainsFunc(s.bounds, func(bound int64) bool { return ts <= bound })
}

func (s *second) log() []api.Event {
	var out []api.Event
	for _, e := range s.taken {
		if !s.isPast(e.Ts) {
			out = append(out, e)
		}
	}
	return out
}

// isAsked: does the event's type stand in an item of the query?
func isAsked(p api.Plan, e api.Event) bool {
	if e.Type < 0 || e.Type >= len(p.Schema.Types) {
		return false
	}
	name := p.Schema.Types[e.Type].Name
	return slices.ContainsFunc(p.Query.Items, func(i api.Item) bool { return slices.Contains(i.Types, name) })
}

// isBehind: by the timestamp, then by the id.
func isBehind(e, f api.Event) bool { return e.Ts > f.Ts || e.Ts == f.Ts && e.Id > f.Id }

func (s *second) add(e api.Event) bool {
	if !isAsked(s.plan, e) || s.isPast(e.Ts) || slices.ContainsFunc(s.log(), func(f api.Event) bool { return !isBehind(e, f) }) {
		return false
	}
	s.taken = append(s.taken, e)
	return true
}

func (s *second) prune(bound int64) int {
	was := len(s.log())
	s.bounds = append(s.bounds, bound)
	return was - len(s.log())
}

// stacksOf: the stacks over a log, from the words of the chapter: predecessors are counted one by one.
func stacksOf(p api.Plan, log []api.Event) [][]api.Inst {
	out := make([][]api.Inst, len(p.Comps))
	for comp := range out {
		for rank, e := range log {
			if !plan.Takes(p, comp, e) {
				continue
			}
			x := api.Inst{Event: e, Rank: rank}
			if comp > 0 {
				for _, y := range out[comp-1] {
					if y.Rank < rank {
						x.Prev++
					}
				}
			}
			out[comp] = append(out[comp], x)
		}
	}
	return out
}

// tells: do the stacks tell just this log and what stands over it, twice in a row?
func tells(t *testing.T, where string, s *stacks.Stacks, p api.Plan, log []api.Event) {
	t.Helper()
	want := stacksOf(p, log)
	for range 2 {
		if s.Len() != len(log) || !slices.Equal(s.Log(), log) {
			t.Fatalf("11.4: %s: %d, %s, want %s", where, s.Len(), shown(s.Log()), shown(log))
		}
		for comp, stack := range want {
			if s.Depth(comp) != len(stack) {
				t.Fatalf("11.4: %s: Depth(%d): %d, want %d", where, comp, s.Depth(comp), len(stack))
			}
			for i, x := range stack {
				holds(t, where, s, comp, i, x)
			}
			none(t, where, s, comp, -1)
			none(t, where, s, comp, len(stack))
		}
		for _, comp := range []int{-1, len(want)} {
			if s.Depth(comp) != 0 {
				t.Fatalf("11.4: %s: Depth(%d): %d", where, comp, s.Depth(comp))
			}
			none(t, where, s, comp, 0)
		}
	}
}

// holds: is that the instance at the place?
func holds(t *testing.T, where string, s *stacks.Stacks, comp, i int, want api.Inst) {
	t.Helper()
	if x, ok := s.At(comp, i); !ok || x != want {
		t.Fatalf("11.4: %s: At(%d, %d): %+v, %v, want %+v", where, comp, i, x, ok, want)
	}
}

// none: is there nothing at the place?
func none(t *testing.T, where string, s *stacks.Stacks, comp, i int) {
	t.Helper()
	if x, ok := s.At(comp, i); ok || x != (api.Inst{}) {
		t.Fatalf("11.4: %s: At(%d, %d): %+v, %v", where, comp, i, x, ok)
	}
}

// pair: stacks beside the second ones. Each step is told to both, and behind it both are asked all that changes nothing.
type pair struct {
	t      *testing.T
	where  string
	stacks *stacks.Stacks
	want   *second
}

// open: new stacks beside new second ones.
func open(t *testing.T, where string, p api.Plan) *pair {
	t.Helper()
	s := stacks.New(p)
	if s == nil {
		t.Fatalf("11.1: %s: New has answered nothing", where)
	}
	out := &pair{t, where, s, &second{plan: p}}
	out.asked("New")
	return out
}

func (p *pair) asked(call string) {
	p.t.Helper()
	tells(p.t, p.where+": "+call, p.stacks, p.want.plan, p.want.log())
}

func (p *pair) add(e api.Event) bool {
	p.t.Helper()
	got, want := p.stacks.Add(e), p.want.add(e)
	if got != want {
		p.t.Fatalf("11.2: %s: Add(%d/%d of type %d): %v, want %v", p.where, e.Ts, e.Id, e.Type, got, want)
	}
	p.asked("Add")
	return got
}

func (p *pair) prune(bound int64) int {
	p.t.Helper()
	got, want := p.stacks.Prune(bound), p.want.prune(bound)
	if got != want {
		p.t.Fatalf("11.3: %s: Prune(%d): %d, want %d", p.where, bound, got, want)
	}
	p.asked("Prune")
	return got
}

// now: the last event's timestamp, or the greatest bound, if one of them is near 0.
func (p *pair) now() int64 {
	out := int64(-6)
	for _, ts := range p.want.bounds {
		if ts < 1000 {
			out = max(out, ts)
		}
	}
	for _, e := range p.want.log() {
		if e.Ts < 1000 {
			out = max(out, e.Ts)
		}
	}
	return out
}

// draw: a scattered step. Most of them add an event.
func (p *pair) draw(pick func(int) int) {
	p.t.Helper()
	switch pick(12) {
	case 0, 1:
		p.prune(p.now() - int64(pick(16)))
	case 2:
		p.prune(p.now() + int64(pick(12)-10))
	default:
		p.add(drawEvent(pick, p.now()))
	}
}

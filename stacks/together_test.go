package stacks_test

import (
	"fmt"
	"math"
	"slices"
	"testing"

	"sluice/api"
	"sluice/plan"
	"sluice/stacks"
)

// Every row of a few steps, against the second stacks.
func TestEveryRowOfSteps(t *testing.T) {
	const most = 5
	p := made("SEQ(A a, !C n, (A|B) b) WHERE a.x > 0 WITHIN 5")
	steps := []func(p *pair){
		func(p *pair) { p.add(ev(0, 1, typeA, 1)) },
		func(p *pair) { p.add(ev(1, 0, typeA, 2)) },
		func(p *pair) { p.add(ev(1, 1, typeC, 1)) },
		func(p *pair) { p.add(ev(1, 2, typeB, 1)) },
		func(p *pair) { p.add(ev(2, 0, typeA, 1)) },
		func(p *pair) { p.prune(0) },
		func(p *pair) { p.prune(1) },
		func(p *pair) { p.prune(-1) },
	}
	var row []int
	var from func()
	from = func() {
		if len(row) == most {
			q := open(t, fmt.Sprint("steps ", row), p)
			for _, step := range row {
				steps[step](q)
			}
			return
		}
		for step := range steps {
			row = append(row, step)
			from()
			row = row[:len(row)-1]
		}
	}
	from()
}

// fresh: new stacks that have taken just these events.
func fresh(t *testing.T, p api.Plan, log []api.Event) *stacks.Stacks {
	t.Helper()
	s := stacks.New(p)
	added(t, s, true, log...)
	return s
}

// same: do both tell the same, to all that is asked of them?
func same(t *testing.T, where string, p api.Plan, s, o *stacks.Stacks) {
	t.Helper()
	if s.Len() != o.Len() || !slices.Equal(s.Log(), o.Log()) {
		t.Fatalf("11.5: %s: %s and %s", where, shown(s.Log()), shown(o.Log()))
	}
	for comp := -1; comp <= len(p.Comps); comp++ {
		if s.Depth(comp) != o.Depth(comp) {
			t.Fatalf("11.5: %s: Depth(%d): %d and %d", where, comp, s.Depth(comp), o.Depth(comp))
		}
		for i := -1; i <= s.Depth(comp); i++ {
			x, ok := s.At(comp, i)
			if y, fine := o.At(comp, i); x != y || ok != fine {
				t.Fatalf("11.5: %s: At(%d, %d): %+v, %v and %+v, %v", where, comp, i, x, ok, y, fine)
			}
		}
	}
}

// linked: are the predecessors of each instance, of each two neighbouring stacks, those that are before it, and no others?
func linked(t *testing.T, where string, p api.Plan, s *stacks.Stacks) {
	t.Helper()
	for comp := range p.Comps {
		most := 0
		for i := range s.Depth(comp) {
			x, ok := s.At(comp, i)
			if !ok || comp == 0 && x.Prev != 0 || x.Prev < most || x.Prev > s.Depth(comp-1) {
				t.Fatalf("11.6: %s: At(%d, %d): %+v, %v", where, comp, i, x, ok)
			}
			most = x.Prev
			for j := range s.Depth(comp - 1) {
				y, _ := s.At(comp-1, j)
				if isBehind(x.Event, y.Event) != (j < x.Prev) {
					t.Fatalf("11.6: %s: At(%d, %d): %+v, ahead of it at %d: %+v", where, comp, i, x, j, y)
				}
			}
		}
	}
}

// Promises 11.5 and 11.6 over scattered scripts: against the second stacks, against new ones that took just the events of the log, and by going through all instances.
func TestScatteredScripts(t *testing.T) {
	pick := scatter(21)
	deep, dropped := 0, 0
	for round := range 300 {
		p := open(t, fmt.Sprint("script ", round), made(queries[round%len(queries)]))
		for range 60 {
			p.draw(pick)
			same(t, p.where, p.want.plan, p.stacks, fresh(t, p.want.plan, p.stacks.Log()))
			linked(t, p.where, p.want.plan, p.stacks)
			deep = max(deep, p.stacks.Len())
		}
		dropped += len(p.want.taken) - p.stacks.Len()
	}
	if deep < 20 || dropped < 3000 {
		t.Errorf("the deepest log has %d events, %d were dropped: too few", deep, dropped)
	}
}

// Promise 11.5: from then on too: stacks that have dropped much and new ones with the same log and bound answer every later step alike.
func TestNothingButTheLog(t *testing.T) {
	pick := scatter(31)
	for round := range 200 {
		plan := made(queries[round%len(queries)])
		old := open(t, fmt.Sprint("script ", round), plan)
		for range 40 {
			old.draw(pick)
		}
		young := fresh(t, plan, old.stacks.Log())
		if len(old.want.bounds) > 0 {
			young.Prune(slices.Max(old.want.bounds))
		}
		other := &pair{t, old.where + ", new", young, &second{plan: plan, taken: old.want.log(), bounds: old.want.bounds}}
		for range 20 {
			seed := uint64(pick(1 << 20))
			old.draw(scatter(seed))
			other.draw(scatter(seed))
			same(t, old.where, plan, old.stacks, young)
		}
	}
}

// spelt: a binding's events, last one first, by their names and components.
type spelt = string

// walked: the bindings that meet the rules 1 to 4 (own filters being asked too) and end with the log's last event, found by going back through the stacks.
func walked(p api.Plan, s *stacks.Stacks) []spelt {
	var out []spelt
	last := len(p.Comps) - 1
	top, ok := s.At(last, s.Depth(last)-1)
	if !ok || top.Rank != s.Len()-1 {
		return nil
	}
	var back func(comp, i, count int, tail spelt)
	back = func(comp, i, count int, tail spelt) {
		x, _ := s.At(comp, i)
		if top.Event.Ts-x.Event.Ts > p.Query.Within {
			return
		}
		tail += fmt.Sprintf("%d:%d/%d ", comp, x.Event.Ts, x.Event.Id)
		if count >= p.Comps[comp].Lo {
			if comp == 0 {
				out = append(out, tail)
			}
			for j := range x.Prev {
				back(comp-1, j, 1, tail)
			}
		}
		if count < p.Comps[comp].Hi {
			for j := range i {
				back(comp, j, count+1, tail)
			}
		}
	}
	back(last, s.Depth(last)-1, 1, "")
	slices.Sort(out)
	return out
}

// looked: the same, found in a plain list of all events: each event of a binding is any one before the event behind it.
func looked(p api.Plan, all []api.Event) []spelt {
	var out []spelt
	if len(all) == 0 {
		return nil
	}
	newest := all[len(all)-1]
	var back func(at, comp, count int, tail spelt)
	back = func(at, comp, count int, tail spelt) {
		e := all[at]
		if !plan.Takes(p, comp, e) || newest.Ts-e.Ts > p.Query.Within {
			return
		}
		tail += fmt.Sprintf("%d:%d/%d ", comp, e.Ts, e.Id)
		enough, more := count >= p.Comps[comp].Lo, count < p.Comps[comp].Hi
		if enough && comp == 0 {
			out = append(out, tail)
		}
		for i := range at {
			if enough && comp > 0 {
				back(i, comp-1, 1, tail)
			}
			if more {
				back(i, comp, count+1, tail)
			}
		}
	}
	back(len(all)-1, len(p.Comps)-1, 1, "")
	slices.Sort(out)
	return out
}

// above: the events of a list with timestamps above a time.
func above(l []api.Event, ts int64) []api.Event {
	return slices.DeleteFunc(slices.Clone(l), func(e api.Event) bool { return e.Ts <= ts })
}

// Promise 11.7: behind each mark w all up to w - W is pruned: the log is just the events above that, and whatever a later event completes is found as it is in the plain list of all events.
func TestInTime(t *testing.T) {
	pick := scatter(41)
	found := map[string]int{}
	dropped := 0
	for round := range 40 * len(queries) {
		query := queries[round%len(queries)]
		p := made(query)
		s := stacks.New(p)
		var all []api.Event
		mark, ts := int64(-20), int64(-20)
		for id := range uint64(40) {
			ts = max(mark+1, ts+int64(pick(2)))
			if e := ev(ts, id, pick(4), int64(pick(4))); s.Add(e) {
				all = append(all, e)
				got, want := walked(p, s), looked(p, all)
				if !slices.Equal(got, want) {
					t.Fatalf("11.7: %s: %v, want %v", query, got, want)
				}
				found[query] += len(got)
			}
			if pick(3) == 0 {
				mark = ts + int64(pick(3)/2)
				dropped += s.Prune(mark - p.Query.Within)
				tells(t, query, s, p, above(all, mark-p.Query.Within))
			}
		}
	}
	for _, query := range queries[:6] {
		if found[query] < 50 {
			t.Errorf("11.7: %s: %d bindings: too few", query, found[query])
		}
	}
	if dropped < 1000 {
		t.Errorf("11.7: %d events were dropped: too few", dropped)
	}
}

// Promise 11.7: an event that is just as old as the window is wide is kept for a match that it can be needed for, and dropped one step later.
func TestAtTheEdgeOfTheWindow(t *testing.T) {
	for _, first := range []int64{api.MinTs, -1, 0, 5, api.MaxTs - 6} {
		p := made(chapter)
		s := stacks.New(p)
		old := ev(first, 0, typeA, 1)
		added(t, s, true, old)
		pruned(t, s, first+4-p.Query.Within, 0) // the mark is first + 4
		last := ev(first+5, 0, typeB, 1)
		added(t, s, true, last)
		if got := walked(p, s); len(got) != 1 {
			t.Errorf("11.7: %v", got)
		}
		pruned(t, s, first+5-p.Query.Within, 1)
		logged(t, s, last)
		pruned(t, s, first+6-p.Query.Within, 0)
	}
}

// The widest window and marks at the ends of the safe range.
func TestTheWidestWindow(t *testing.T) {
	p := made(fmt.Sprint("SEQ(A a, A b) WITHIN ", api.MaxWindow))
	s := stacks.New(p)
	pruned(t, s, api.MinTs-api.MaxWindow, 0)
	added(t, s, true, ev(api.MinTs, 0, typeA, 0), ev(api.MinTs+api.MaxWindow, 0, typeA, 0))
	pruned(t, s, api.MinTs+api.MaxWindow-1-api.MaxWindow, 0)
	pruned(t, s, api.MinTs+api.MaxWindow-api.MaxWindow, 1)
	added(t, s, true, ev(api.MaxTs, math.MaxUint64, typeA, 0))
	pruned(t, s, api.MaxTs-api.MaxWindow, 1)
	logged(t, s, ev(api.MaxTs, math.MaxUint64, typeA, 0))
	stacked(t, s, 1, api.Inst{Event: ev(api.MaxTs, math.MaxUint64, typeA, 0)})
}

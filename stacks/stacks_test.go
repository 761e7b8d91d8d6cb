package stacks_test

import (
	"math"
	"slices"
	"testing"

	"sluice/api"
	"sluice/stacks"
)

// added: does Add answer so, each time?
func added(t *testing.T, s *stacks.Stacks, want bool, l ...api.Event) {
	t.Helper()
	for _, e := range l {
		if got := s.Add(e); got != want {
			t.Errorf("11.2: Add(%d/%d of type %d): %v", e.Ts, e.Id, e.Type, got)
		}
	}
}

// pruned: does Prune answer so?
func pruned(t *testing.T, s *stacks.Stacks, bound int64, want int) {
	t.Helper()
	if got := s.Prune(bound); got != want {
		t.Errorf("11.3: Prune(%d): %d, want %d", bound, got, want)
	}
}

// logged: are these the events of the log, twice in a row?
func logged(t *testing.T, s *stacks.Stacks, want ...api.Event) {
	t.Helper()
	for range 2 {
		if s.Len() != len(want) || !slices.Equal(s.Log(), want) {
			t.Errorf("11.4: %d, %s, want %s", s.Len(), shown(s.Log()), shown(want))
		}
	}
}

// stacked: are these the instances of a component's stack, and is there none beside them?
func stacked(t *testing.T, s *stacks.Stacks, comp int, want ...api.Inst) {
	t.Helper()
	for range 2 {
		if s.Depth(comp) != len(want) {
			t.Errorf("11.4: Depth(%d): %d, want %d", comp, s.Depth(comp), len(want))
		}
		for i, x := range want {
			holds(t, "", s, comp, i, x)
		}
		for _, i := range append([]int{len(want), len(want) + 1}, wildNumbers...) {
			none(t, "", s, comp, i)
		}
	}
}

// The chapter's table.
func TestExamples(t *testing.T) {
	s := stacks.New(made(chapter))
	a, b, c, z, d := ev(1, 1, typeA, 3), ev(2, 1, typeB, 9), ev(3, 1, typeC, 0), ev(3, 2, typeA, 0), ev(4, 1, typeA, 5)
	added(t, s, true, a)
	added(t, s, false, a, ev(1, 0, typeB, 1), ev(2, 1, typeD, 1))
	added(t, s, true, b, c, z, d)
	logged(t, s, a, b, c, z, d)
	stacked(t, s, 0, api.Inst{Event: a}, api.Inst{Event: d, Rank: 4})
	stacked(t, s, 1, api.Inst{Event: a}, api.Inst{Event: b, Rank: 1, Prev: 1}, api.Inst{Event: z, Rank: 3, Prev: 1}, api.Inst{Event: d, Rank: 4, Prev: 1})
	stacked(t, s, 2)
	stacked(t, s, -1)
	pruned(t, s, 0, 0)
	logged(t, s, a, b, c, z, d)
	pruned(t, s, 2, 2)
	logged(t, s, c, z, d)
	stacked(t, s, 0, api.Inst{Event: d, Rank: 2})
	stacked(t, s, 1, api.Inst{Event: z, Rank: 1}, api.Inst{Event: d, Rank: 2})
	pruned(t, s, 9, 3)
	logged(t, s)
	added(t, s, false, ev(9, 1, typeA, 1))
	added(t, s, true, ev(10, 1, typeA, 1))
	logged(t, s, ev(10, 1, typeA, 1))
	stacked(t, s, 0, api.Inst{Event: ev(10, 1, typeA, 1)})
	stacked(t, s, 1, api.Inst{Event: ev(10, 1, typeA, 1)})
}

// Promise 11.1: nothing is there, whatever the plan, and there is no bound.
func TestNew(t *testing.T) {
	for _, query := range queries {
		p := made(query)
		s := stacks.New(p)
		logged(t, s)
		for comp := -1; comp <= len(p.Comps); comp++ {
			stacked(t, s, comp)
		}
		e := ev(math.MinInt64, 0, p.Comps[0].Types[0], 1)
		added(t, s, true, e)
		logged(t, s, e)
	}
}

// Promise 11.2: an event that is not in the stream, at any time.
func TestAddOfWhatIsNotInTheStream(t *testing.T) {
	s := stacks.New(made(chapter))
	odd := []api.Event{ev(5, 1, typeD, 1), ev(5, 1, 4, 1)}
	for _, typ := range wildNumbers {
		odd = append(odd, ev(5, 1, typ, 1))
	}
	added(t, s, false, odd...)
	logged(t, s)
	added(t, s, true, ev(4, 1, typeA, 1))
	added(t, s, false, odd...)
	pruned(t, s, 4, 1)
	added(t, s, false, odd...)
	logged(t, s)
	// None of them stands in the way of a lesser one.
	s = stacks.New(made(chapter))
	added(t, s, false, odd...)
	added(t, s, true, ev(1, 1, typeB, 1))
}

// Promise 11.2: events whose names are not behind the log's last one, and such as are.
func TestAddByNames(t *testing.T) {
	s := stacks.New(made(chapter))
	first, last := ev(3, 7, typeA, 1), ev(5, 5, typeA, 1)
	added(t, s, true, first, last)
	added(t, s, false, last, first)                                                                // again
	added(t, s, false, ev(5, 5, typeA, 2), ev(5, 5, typeB, 1), ev(5, 5, typeC, 0))                 // its name
	added(t, s, false, ev(5, 4, typeA, 1), ev(5, 0, typeB, 1))                                     // a lesser id
	added(t, s, false, ev(4, 9, typeA, 1), ev(4, 5, typeA, 1), ev(3, 8, typeA, 1), ev(2, 6, 1, 1)) // before it
	added(t, s, false, ev(math.MinInt64, math.MaxUint64, typeA, 1), ev(-5, math.MaxUint64, 1, 1))  // far before it
	logged(t, s, first, last)
	stacked(t, s, 0, api.Inst{Event: first}, api.Inst{Event: last, Rank: 1})
	added(t, s, true, ev(5, 6, typeA, 1), ev(6, 0, typeA, 1), ev(6, 1<<63-1, typeA, 1), ev(6, 1<<63, typeA, 1), ev(6, math.MaxUint64, typeA, 1))
	added(t, s, false, ev(6, math.MaxUint64, typeA, 1), ev(6, 1<<63, typeA, 1), ev(6, 1, typeA, 1))
	added(t, s, true, ev(math.MaxInt64, 0, typeA, 1))
	if s.Len() != 8 || s.Depth(0) != 8 || s.Depth(1) != 8 {
		t.Errorf("11.2: %s", shown(s.Log()))
	}
}

// Promise 11.2: a refused event leaves no trace, not even for what is asked of the next one.
func TestRefusedEventsAreNotTheLast(t *testing.T) {
	s := stacks.New(made(chapter))
	added(t, s, true, ev(1, 1, typeA, 1))
	added(t, s, false, ev(9, 9, typeD, 1), ev(1, 0, typeA, 1))
	added(t, s, true, ev(1, 2, typeA, 1), ev(2, 0, typeB, 1))
	logged(t, s, ev(1, 1, typeA, 1), ev(1, 2, typeA, 1), ev(2, 0, typeB, 1))
}

// Promise 11.2: at the bound and below it an event is refused, above it it is not: with a log that is empty behind the Prune, with one that is not, and with one that never had an event.
func TestAddAtTheBound(t *testing.T) {
	for _, bound := range []int64{math.MinInt64 + 1, api.MinTs, -1, 0, 7, api.MaxTs, math.MaxInt64 - 2} {
		never := stacks.New(made(chapter))
		pruned(t, never, bound, 0)
		empty := stacks.New(made(chapter))
		added(t, empty, true, ev(bound-1, 0, typeA, 1), ev(bound, 3, typeB, 1))
		pruned(t, empty, bound, 2)
		for _, s := range []*stacks.Stacks{never, empty} {
			logged(t, s)
			added(t, s, false, ev(bound-1, 9, typeA, 1), ev(bound, 0, typeA, 1), ev(bound, 3, typeA, 1), ev(bound, math.MaxUint64, typeA, 1))
			added(t, s, true, ev(bound+1, 0, typeA, 1))
			logged(t, s, ev(bound+1, 0, typeA, 1))
		}
		some := stacks.New(made(chapter))
		added(t, some, true, ev(bound, 3, typeA, 1), ev(bound+1, 3, typeA, 1))
		pruned(t, some, bound, 1)
		added(t, some, false, ev(bound-1, 9, typeA, 1), ev(bound, 3, typeA, 1), ev(bound, math.MaxUint64, typeA, 1), ev(bound+1, 2, typeA, 1), ev(bound+1, 3, typeA, 1))
		added(t, some, true, ev(bound+1, 4, typeA, 1), ev(bound+2, 0, typeA, 1))
		logged(t, some, ev(bound+1, 3, typeA, 1), ev(bound+1, 4, typeA, 1), ev(bound+2, 0, typeA, 1))
	}
}

// Promise 11.2: the last event that was dropped does not count any more: a lesser name above the bound is taken.
func TestAddBehindTheBoundAlone(t *testing.T) {
	s := stacks.New(made(chapter))
	added(t, s, true, ev(9, 9, typeA, 1))
	pruned(t, s, 9, 1)
	added(t, s, true, ev(10, 0, typeA, 1))
	added(t, s, false, ev(10, 0, typeA, 1))
}

// Promise 11.2: an event that a negated item takes and no component is in the log, and counts for the ranks alone; so does one whose type a component has and whose own filter is not true.
func TestEventsInNoStack(t *testing.T) {
	s := stacks.New(made("SEQ(A a, !C n, B b) WHERE a.x > 0 AND n.x = 9 AND 6 / b.x = 2 WITHIN 5"))
	a, b := ev(3, 0, typeA, 1), ev(6, 0, typeB, 3)
	added(t, s, true, ev(1, 0, typeC, 9), ev(2, 0, typeC, 0), a, ev(4, 0, typeA, 0), ev(5, 0, typeB, 0), b, ev(7, 0, typeB, 4))
	stacked(t, s, 0, api.Inst{Event: a, Rank: 2})
	stacked(t, s, 1, api.Inst{Event: b, Rank: 5, Prev: 1})
	pruned(t, s, 1, 1)
	stacked(t, s, 0, api.Inst{Event: a, Rank: 1})
	stacked(t, s, 1, api.Inst{Event: b, Rank: 4, Prev: 1})
	pruned(t, s, 3, 2)
	stacked(t, s, 0)
	stacked(t, s, 1, api.Inst{Event: b, Rank: 2})
}

// Promise 11.2: one event in several stacks, in neighbouring ones too: it is no predecessor of itself.
func TestEventsInSeveralStacks(t *testing.T) {
	s := stacks.New(made("SEQ(A a, (A|B) b, A c, B d, A e) WITHIN 9"))
	one, two, three, four := ev(1, 0, typeA, 0), ev(2, 0, typeB, 0), ev(2, 1, typeA, 0), ev(3, 0, typeA, 0)
	added(t, s, true, one)
	for comp, depth := range []int{1, 1, 1, 0, 1} {
		if s.Depth(comp) != depth {
			t.Errorf("11.2: Depth(%d): %d, want %d", comp, s.Depth(comp), depth)
		}
		if x, ok := s.At(comp, 0); ok != (depth == 1) || x.Prev != 0 {
			t.Errorf("11.2: At(%d, 0): %+v, %v", comp, x, ok)
		}
	}
	added(t, s, true, two, three, four)
	stacked(t, s, 0, api.Inst{Event: one}, api.Inst{Event: three, Rank: 2}, api.Inst{Event: four, Rank: 3})
	stacked(t, s, 1, api.Inst{Event: one}, api.Inst{Event: two, Rank: 1, Prev: 1}, api.Inst{Event: three, Rank: 2, Prev: 1}, api.Inst{Event: four, Rank: 3, Prev: 2})
	stacked(t, s, 2, api.Inst{Event: one}, api.Inst{Event: three, Rank: 2, Prev: 2}, api.Inst{Event: four, Rank: 3, Prev: 3})
	stacked(t, s, 3, api.Inst{Event: two, Rank: 1, Prev: 1})
	stacked(t, s, 4, api.Inst{Event: one}, api.Inst{Event: three, Rank: 2, Prev: 1}, api.Inst{Event: four, Rank: 3, Prev: 1})
	pruned(t, s, 1, 1)
	stacked(t, s, 0, api.Inst{Event: three, Rank: 1}, api.Inst{Event: four, Rank: 2})
	stacked(t, s, 1, api.Inst{Event: two}, api.Inst{Event: three, Rank: 1}, api.Inst{Event: four, Rank: 2, Prev: 1})
	stacked(t, s, 2, api.Inst{Event: three, Rank: 1, Prev: 1}, api.Inst{Event: four, Rank: 2, Prev: 2})
	stacked(t, s, 3, api.Inst{Event: two})
	stacked(t, s, 4, api.Inst{Event: three, Rank: 1, Prev: 1}, api.Inst{Event: four, Rank: 2, Prev: 1})
}

// Promise 11.3: of an empty log, of nothing, of a part, of all, with the same and with lesser bounds than before.
func TestPrune(t *testing.T) {
	p := open(t, "Prune", made(chapter))
	prune := func(bound int64, want int, left int) {
		t.Helper()
		if got := p.prune(bound); got != want || p.stacks.Len() != left {
			t.Errorf("11.3: Prune(%d): %d, %d are left, want %d, %d", bound, got, p.stacks.Len(), want, left)
		}
	}
	add := func(l ...api.Event) {
		t.Helper()
		for _, e := range l {
			if !p.add(e) {
				t.Errorf("11.2: %d/%d is refused", e.Ts, e.Id)
			}
		}
	}
	prune(-3, 0, 0)
	prune(-3, 0, 0)
	add(ev(1, 0, typeA, 1), ev(1, 1, typeB, 1), ev(1, 2, typeA, 1), ev(3, 0, typeC, 1), ev(5, 0, typeB, 1), ev(5, 9, typeA, 1), ev(8, 0, typeA, 0))
	prune(-9, 0, 7)
	prune(0, 0, 7)
	prune(1, 3, 4)
	prune(1, 0, 4)
	prune(0, 0, 4)
	prune(2, 0, 4)
	prune(4, 1, 3)
	prune(math.MinInt64, 0, 3)
	add(ev(9, 0, typeB, 1))
	prune(7, 2, 2)
	prune(9, 2, 0)
	prune(9, 0, 0)
	prune(8, 0, 0)
	prune(20, 0, 0)
	prune(15, 0, 0)
	// The greatest bound stays the bound.
	added(t, p.stacks, false, ev(9, 9, typeA, 1), ev(15, 9, typeA, 1), ev(16, 9, typeA, 1), ev(20, 9, typeA, 1))
	add(ev(21, 0, typeA, 1))
	prune(21, 1, 0)
}

// Promise 11.3: a lesser bound than the first one counts for nothing, even with a log that has events.
func TestLesserBounds(t *testing.T) {
	s := stacks.New(made(chapter))
	pruned(t, s, 5, 0)
	pruned(t, s, -5, 0)
	added(t, s, false, ev(5, 0, typeA, 1), ev(-4, 0, typeA, 1))
	added(t, s, true, ev(6, 0, typeA, 1))
	pruned(t, s, math.MinInt64, 0)
	logged(t, s, ev(6, 0, typeA, 1))
	pruned(t, s, 6, 1)
}

// Promises 11.2 and 11.3: bounds and timestamps at the ends of int64: a bound may be the least number that there is.
func TestEndsOfNumbers(t *testing.T) {
	s := stacks.New(made(chapter))
	least, next, most := ev(math.MinInt64, 0, typeA, 1), ev(math.MinInt64+1, 0, typeA, 1), ev(math.MaxInt64, math.MaxUint64, typeA, 1)
	added(t, s, true, least, next, most)
	logged(t, s, least, next, most)
	pruned(t, s, math.MinInt64, 1)
	logged(t, s, next, most)
	pruned(t, s, math.MaxInt64-1, 1)
	logged(t, s, most)
	stacked(t, s, 1, api.Inst{Event: most})
	pruned(t, s, math.MaxInt64, 1)
	logged(t, s)
	added(t, s, false, least, next, most)

	s = stacks.New(made(chapter))
	pruned(t, s, math.MinInt64, 0)
	added(t, s, false, least)
	added(t, s, true, next)

	s = stacks.New(made(chapter))
	pruned(t, s, math.MaxInt64, 0)
	added(t, s, false, least, next, most, ev(0, 0, typeA, 1))
}

// Timestamps and bounds from the ends of their ranges, each behind each.
func TestWildTimes(t *testing.T) {
	for i, first := range wildTimes {
		for _, then := range wildTimes {
			p := open(t, "wild times", made(chapter))
			p.prune(first)
			for _, ts := range wildTimes {
				p.add(ev(ts, uint64(i), typeA, 1))
			}
			p.prune(then)
			p.add(ev(then, 9, typeB, 1))
			p.add(ev(math.MaxInt64, 99, typeC, 1))
			p.prune(first)
		}
	}
}

// Promise 11.4: numbers of no component and of no place.
func TestNoSuchComponentOrPlace(t *testing.T) {
	for _, query := range queries {
		p := made(query)
		s := stacks.New(p)
		for i := range 12 {
			s.Add(ev(int64(i), 0, i%4, int64(i%3)))
		}
		for _, comp := range append([]int{len(p.Comps), len(p.Comps) + 1}, wildNumbers...) {
			if s.Depth(comp) != 0 {
				t.Errorf("11.4: %s: Depth(%d): %d", query, comp, s.Depth(comp))
			}
			for _, i := range append([]int{0, 1}, wildNumbers...) {
				none(t, query, s, comp, i)
			}
		}
		for comp := range p.Comps {
			for _, i := range append([]int{s.Depth(comp)}, wildNumbers...) {
				none(t, query, s, comp, i)
			}
		}
	}
}

// Repeated components, which take one row of events.
func TestThreeStacksOfOneRow(t *testing.T) {
	s := stacks.New(made("SEQ(A+ a, A+ b, (A|B) c) WITHIN 100"))
	for i := range 6 {
		added(t, s, true, ev(int64(i), 0, i%2, 0))
	}
	want := func(comp int, first int64, step int, prevs ...int) {
		t.Helper()
		var l []api.Inst
		for i, prev := range prevs {
			rank := i * step
			ts := first + int64(rank)
			l = append(l, api.Inst{Event: ev(ts, 0, int(ts%2), 0), Rank: rank, Prev: prev})
		}
		stacked(t, s, comp, l...)
	}
	want(0, 0, 2, 0, 0, 0)
	want(1, 0, 2, 0, 1, 2)
	want(2, 0, 1, 0, 1, 1, 2, 2, 3)
	pruned(t, s, 1, 2)
	want(0, 2, 2, 0, 0)
	want(1, 2, 2, 0, 1)
	want(2, 2, 1, 0, 1, 1, 2)
	pruned(t, s, 3, 2)
	added(t, s, true, ev(6, 0, typeA, 0))
	want(0, 4, 2, 0, 0)
	want(1, 4, 2, 0, 1)
	want(2, 4, 1, 0, 1, 1)
}

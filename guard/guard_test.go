package guard_test

import (
	"fmt"
	"math"
	"slices"
	"testing"

	"sluice/api"
	"sluice/guard"
)

// added: does Add answer so, each time?
func added(t *testing.T, g *guard.Guards, want int, l ...api.Event) {
	t.Helper()
	for _, e := range l {
		if got := g.Add(e); got != want {
			t.Errorf("12.2: Add(%d/%d of type %d): %d, want %d", e.Ts, e.Id, e.Type, got, want)
		}
	}
}

// pruned: does Prune answer so?
func pruned(t *testing.T, g *guard.Guards, bound int64, want int) {
	t.Helper()
	if got := g.Prune(bound); got != want {
		t.Errorf("12.3: Prune(%d): %d, want %d", bound, got, want)
	}
}

// kept: are these the events of a buffer, twice in a row?
func kept(t *testing.T, g *guard.Guards, neg int, want ...api.Event) {
	t.Helper()
	for range 2 {
		if got := g.Kept(neg); !slices.Equal(got, want) {
			t.Errorf("12.4: Kept(%d): %s, want %s", neg, shown(got), shown(want))
		}
	}
}

// blocked: does Blocked answer so, twice in a row?
func blocked(t *testing.T, g *guard.Guards, neg int, want bool, l ...api.Binding) {
	t.Helper()
	for _, b := range l {
		for range 2 {
			if got := g.Blocked(neg, b); got != want {
				t.Errorf("12.6: Blocked(%d, %+v): %v", neg, b, got)
			}
		}
	}
}

// ranged: are just these events in the range, of all that are asked, twice in a row?
func ranged(t *testing.T, p api.Plan, neg int, b api.Binding, want bool, l ...api.Event) {
	t.Helper()
	for _, e := range l {
		for range 2 {
			if got := guard.InRange(p, neg, b, e); got != want {
				t.Errorf("12.5: InRange(%d, %+v, %d/%d): %v", neg, b, e.Ts, e.Id, got)
			}
		}
	}
}

// The chapter's table.
func TestExamples(t *testing.T) {
	g := guard.New(made(chapter))
	b := ev(2, 1, typeB, 1, 7)
	added(t, g, 1, b)
	added(t, g, 0, b, ev(2, 0, typeB, 1, 7), ev(3, 1, typeB, 2, 7), ev(3, 2, typeA, 1, 7), ev(1, 1, typeC, 7))
	kept(t, g, 0, b)
	blocked(t, g, 0, true, bind(ev(1, 1, typeA, 9, 7), ev(4, 1, typeC, 7)))
	blocked(t, g, 0, false,
		bind(ev(1, 1, typeA, 9, 8), ev(4, 1, typeC, 7)),
		bind(ev(2, 1, typeA, 9, 7), ev(4, 1, typeC, 7)), bind(ev(1, 1, typeA, 9, 7), ev(2, 1, typeC, 7)),
		bind(ev(1, 1, typeA, 9, 7)), api.Binding{{}, {ev(4, 1, typeC, 7)}})
	blocked(t, g, 1, false, bind(ev(1, 1, typeA, 9, 7), ev(4, 1, typeC, 7)))
	pruned(t, g, 1, 0)
	pruned(t, g, 2, 1)
	kept(t, g, 0)
	added(t, g, 0, ev(2, 9, typeB, 1, 7))

	p := made(ends)
	g = guard.New(p)
	added(t, g, 2, ev(1, 1, typeB))
	one := bind(ev(6, 1, typeA))
	ranged(t, p, 0, one, true, ev(1, 0, typeB), ev(1, 1, typeB), ev(5, 99, typeB), ev(6, 0, typeB))
	ranged(t, p, 0, one, false, ev(0, math.MaxUint64, typeB), ev(6, 1, typeB), ev(6, 2, typeB), ev(7, 0, typeB))
	ranged(t, p, 1, one, true, ev(6, 2, typeB), ev(7, 0, typeB), ev(11, 0, typeB), ev(11, math.MaxUint64, typeB))
	ranged(t, p, 1, one, false, ev(6, 1, typeB), ev(6, 0, typeB), ev(12, 0, typeB))
}

// Promise 12.1: nothing is there, whatever the plan, and there is no bound.
func TestNew(t *testing.T) {
	for _, query := range queries {
		p := made(query)
		g := guard.New(p)
		for neg := -1; neg <= len(p.Negs); neg++ {
			kept(t, g, neg)
			blocked(t, g, neg, false, drawBinding(scatter(3), p, 0, nil))
		}
		for _, bound := range []int64{math.MinInt64, 0} {
			pruned(t, guard.New(p), bound, 0)
		}
	}
	g := guard.New(made(ends))
	least := ev(math.MinInt64, 0, typeB)
	added(t, g, 2, least)
	kept(t, g, 0, least)
	kept(t, g, 1, least)
}

// Promise 12.2: events that no negation looks at, one that one looks at and one that several do.
func TestAddCounts(t *testing.T) {
	g := guard.New(made("SEQ(!B l, A a, !(B|C) m, A b, !(C|B|A) n) WHERE l.x = 1 AND m.k > 1 AND n.ts < 9 AND n.k != b.k WITHIN 5"))
	none := []api.Event{ev(1, 1, typeD, 1), ev(1, 1, 4, 1, 1)}
	for _, typ := range wildNumbers {
		none = append(none, ev(1, 1, typ, 1, 1))
	}
	added(t, g, 0, none...)
	one, two, three := ev(1, 1, typeA, 1, 1), ev(1, 2, typeC, 2), ev(1, 3, typeB, 1, 2)
	first, middle, last := ev(9, 1, typeB, 1, 1), ev(9, 2, typeC, 2), ev(8, 9, typeB, 0, 0)
	added(t, g, 1, one)
	added(t, g, 2, two)
	added(t, g, 3, three)
	added(t, g, 1, last, first, middle)
	added(t, g, 0, ev(10, 1, typeA, 1, 1), ev(10, 1, typeC, 1), ev(10, 1, typeB, 2, 1)) // of the types, but no filter is true
	kept(t, g, 0, three, first)
	kept(t, g, 1, two, three, middle)
	kept(t, g, 2, one, two, three, last)
}

// Promise 12.2: own filters that are true, false and unknown, one alone and two together.
func TestAddByOwnFilters(t *testing.T) {
	for _, c := range []struct {
		where string
		e     api.Event
		want  int
	}{
		{"n.x = 1", ev(1, 1, typeB, 1, 0), 1}, {"n.x = 1", ev(1, 1, typeB, 2, 0), 0},
		{"4 / n.x = 2", ev(1, 1, typeB, 2, 0), 1}, {"4 / n.x = 2", ev(1, 1, typeB, 0, 0), 0}, {"NOT (4 / n.x = 2)", ev(1, 1, typeB, 0, 0), 0}, {"NOT (4 / n.x = 2)", ev(1, 1, typeB, 1, 0), 1},
		{"n.x = 1 AND n.k = 2", ev(1, 1, typeB, 1, 2), 1}, {"n.x = 1 AND n.k = 2", ev(1, 1, typeB, 1, 1), 0}, {"n.x = 1 AND n.k = 2", ev(1, 1, typeB, 0, 2), 0},
		{"n.x = 1 OR n.k = 2", ev(1, 1, typeB, 0, 2), 1}, {"n.x + n.k = n.ts", ev(3, 1, typeB, 1, 2), 1}, {"n.x + n.k = n.ts", ev(4, 1, typeB, 1, 2), 0},
		{"a.x = 1 AND FALSE AND n.k > a.k", ev(1, 1, typeB, 0, 0), 1}, // none of them is an own filter of n
		{"n.x = 1", ev(1, 1, typeA, 1, 0), 0}, {"n.x = 1", ev(1, 1, typeD, 1), 0}, {"n.x = 1", ev(1, 1, -1, 1), 0},
		{"n.x = 1", api.Event{Ts: 1, Id: 1, Type: typeB, Attrs: [api.MaxAttrs]int64{1, 7, 6, 5, 4, 3, 2, 1}}, 1}, // values behind the type's attributes
	} {
		g := guard.New(made("SEQ(A a, !B n, A b) WHERE " + c.where + " WITHIN 5"))
		added(t, g, c.want, c.e)
		if c.want == 1 {
			kept(t, g, 0, c.e)
		} else {
			kept(t, g, 0)
		}
	}
}

// Promise 12.2: events whose names are not behind the last one that is held, and such as are.
func TestAddByNames(t *testing.T) {
	g := guard.New(made(ends))
	first, last := ev(3, 7, typeB), ev(5, 5, typeB)
	added(t, g, 2, first, last)
	added(t, g, 0, last, first)                                                                // again
	added(t, g, 0, ev(5, 5, typeB, 2), ev(5, 5, typeA), ev(5, 5, typeC))                       // its name
	added(t, g, 0, ev(5, 4, typeB), ev(5, 0, typeB))                                           // a lesser id
	added(t, g, 0, ev(4, 9, typeB), ev(4, 5, typeB), ev(3, 8, typeB), ev(2, 6, typeB))         // before it
	added(t, g, 0, ev(math.MinInt64, math.MaxUint64, typeB), ev(-5, math.MaxUint64, typeB))    // far before it
	added(t, g, 0, ev(5, 6, typeA), ev(6, 6, typeC), ev(math.MaxInt64, math.MaxUint64, typeA)) // behind it, but nothing looks at them
	kept(t, g, 0, first, last)
	kept(t, g, 1, first, last)
	more := []api.Event{ev(5, 6, typeB), ev(6, 0, typeB), ev(6, 1<<63-1, typeB), ev(6, 1<<63, typeB), ev(6, math.MaxUint64, typeB)}
	added(t, g, 2, more...)
	added(t, g, 0, ev(6, math.MaxUint64, typeB), ev(6, 1<<63, typeB), ev(6, 1, typeB))
	more = append(more, ev(math.MaxInt64, 0, typeB))
	added(t, g, 2, more[5])
	kept(t, g, 0, append([]api.Event{first, last}, more...)...)
}

// Promise 12.2: the last event that is held stands in another negation's buffer.
func TestAddBehindAnotherBuffer(t *testing.T) {
	for _, query := range []string{"SEQ(!B m, A a, !C n) WITHIN 5", "SEQ(!C n, A a, !B m) WITHIN 5", "SEQ(A a, !D l, !C n, !B m) WITHIN 5"} {
		g := guard.New(made(query))
		last := ev(5, 5, typeC)
		added(t, g, 1, ev(3, 7, typeB), last)
		added(t, g, 0, ev(5, 5, typeB), ev(5, 4, typeB), ev(4, 9, typeB), ev(3, 8, typeB), ev(3, 7, typeB), ev(2, 0, typeB), ev(math.MinInt64, 0, typeB))
		added(t, g, 1, ev(5, 6, typeB))
		added(t, g, 0, ev(5, 6, typeC), ev(5, 5, typeC))
		added(t, g, 1, ev(6, 0, typeC))
		added(t, g, 0, ev(5, 9, typeB), ev(6, 0, typeB))
		pruned(t, g, 5, 3)
		added(t, g, 0, ev(6, 0, typeB), ev(5, 9, typeB)) // the one buffer is empty, the other one is not
		pruned(t, g, 6, 1)
		added(t, g, 1, ev(7, 0, typeB))
	}
}

// Promise 12.2: events at a bound, one below and one above it, with buffers that are empty behind the Prune and with ones that are not.
func TestAddByBounds(t *testing.T) {
	for _, later := range []bool{false, true} {
		g := guard.New(made(ends))
		added(t, g, 2, ev(4, 9, typeB))
		if later {
			added(t, g, 2, ev(7, 3, typeB))
		}
		pruned(t, g, 6, 2)
		added(t, g, 0, ev(4, 9, typeB), ev(5, 0, typeB), ev(5, math.MaxUint64, typeB), ev(6, 0, typeB), ev(6, math.MaxUint64, typeB), ev(math.MinInt64, 0, typeB))
		if later {
			added(t, g, 0, ev(7, 0, typeB), ev(7, 3, typeB))
			added(t, g, 2, ev(7, 4, typeB))
			kept(t, g, 0, ev(7, 3, typeB), ev(7, 4, typeB))
		} else {
			added(t, g, 2, ev(7, 0, typeB), ev(7, 4, typeB))
			kept(t, g, 1, ev(7, 0, typeB), ev(7, 4, typeB))
		}
		pruned(t, g, 100, 4)
		added(t, g, 0, ev(100, math.MaxUint64, typeB), ev(99, 0, typeB))
		added(t, g, 2, ev(101, 0, typeB))
	}
}

// Promise 12.2: a name below one that was dropped, above all bounds.
func TestAddBehindWhatWasDropped(t *testing.T) {
	g := guard.New(made(ends))
	added(t, g, 2, ev(4, 9, typeB))
	pruned(t, g, 4, 2)
	added(t, g, 2, ev(5, 0, typeB))
	pruned(t, g, 3, 0)
	added(t, g, 0, ev(4, 10, typeB), ev(5, 0, typeB))
}

// Promise 12.2: what is refused, and what no negation looks at, leaves no trace: one that is before it is laid down.
func TestAddBehindWhatLeftNoTrace(t *testing.T) {
	g := guard.New(made(chapter))
	unseen := []api.Event{ev(9, 9, typeA, 1, 1), ev(9, 9, typeC, 1), ev(9, 9, typeD, 1), ev(9, 9, typeB, 2, 1), ev(9, 9, -1, 1), ev(9, 9, 4, 1), ev(math.MaxInt64, math.MaxUint64, typeA, 1, 1)}
	added(t, g, 0, unseen...)
	added(t, g, 1, ev(1, 5, typeB, 1, 1))
	added(t, g, 0, unseen...)
	added(t, g, 0, ev(1, 5, typeB, 1, 1), ev(1, 4, typeB, 1, 1), ev(0, 0, typeB, 1, 1))
	added(t, g, 1, ev(1, 6, typeB, 1, 1))
	pruned(t, g, 5, 2)
	added(t, g, 0, append(unseen, ev(5, 9, typeB, 1, 1))...)
	added(t, g, 1, ev(6, 0, typeB, 1, 1))
	kept(t, g, 0, ev(6, 0, typeB, 1, 1))
}

// Promise 12.3: nothing, a part and all of what is held is dropped; what stands in two buffers counts twice.
func TestPrune(t *testing.T) {
	p := made("SEQ(!B m, A a, !(B|C) n) WITHIN 5")
	all := []api.Event{ev(1, 1, typeB), ev(1, 2, typeC), ev(2, 1, typeC), ev(4, 0, typeB), ev(4, 9, typeB), ev(6, 1, typeC)}
	for _, c := range []struct {
		bound   int64
		dropped int
		first   []api.Event // what is left in the one buffer
		second  []api.Event // and in the other one
	}{
		{math.MinInt64, 0, []api.Event{all[0], all[3], all[4]}, all}, {0, 0, []api.Event{all[0], all[3], all[4]}, all},
		{1, 3, all[3:5], all[2:]}, {2, 4, all[3:5], all[3:]}, {3, 4, all[3:5], all[3:]}, {4, 8, nil, all[5:]}, {5, 8, nil, all[5:]}, {6, 9, nil, nil}, {7, 9, nil, nil}, {math.MaxInt64, 9, nil, nil},
	} {
		g := guard.New(p)
		for i, n := range []int{2, 1, 1, 2, 2, 1} {
			added(t, g, n, all[i])
		}
		pruned(t, g, c.bound, c.dropped)
		kept(t, g, 0, c.first...)
		kept(t, g, 1, c.second...)
		pruned(t, g, c.bound, 0)
		kept(t, g, 0, c.first...)
		kept(t, g, 1, c.second...)
	}
}

// Promise 12.3: bounds at and below an earlier one drop nothing and take nothing back, even of buffers that have events.
func TestLesserBounds(t *testing.T) {
	g := guard.New(made(ends))
	pruned(t, g, 5, 0)
	pruned(t, g, -5, 0)
	added(t, g, 0, ev(5, 0, typeB), ev(-4, 0, typeB))
	added(t, g, 2, ev(6, 0, typeB), ev(7, 0, typeB))
	for _, bound := range []int64{5, 4, 0, math.MinInt64} {
		pruned(t, g, bound, 0)
		kept(t, g, 0, ev(6, 0, typeB), ev(7, 0, typeB))
	}
	pruned(t, g, 6, 2)
	pruned(t, g, 6, 0)
	pruned(t, g, 5, 0)
	kept(t, g, 1, ev(7, 0, typeB))
	pruned(t, g, 7, 2)
	pruned(t, g, 6, 0)
	added(t, g, 0, ev(7, 1, typeB))
}

// Promise 12.3: what was dropped kills no more.
func TestWhatWasDroppedKillsNoMore(t *testing.T) {
	g := guard.New(made(chapter))
	for ts := int64(1); ts <= 20; ts++ {
		added(t, g, 1, ev(ts, 0, typeB, 1, 7))
	}
	for bound := int64(0); bound <= 21; bound++ {
		g.Prune(bound)
		for from := int64(0); from <= 20; from++ {
			blocked(t, g, 0, from+1 > bound && from+1 <= 20, bind(ev(from, 1, typeA, 0, 7), ev(from+2, 0, typeC, 0)))
		}
	}
}

// Promises 12.2 and 12.3: bounds and timestamps at the ends of int64: a bound may be the least number that there is.
func TestEndsOfNumbers(t *testing.T) {
	least, next, most := ev(math.MinInt64, 0, typeB), ev(math.MinInt64+1, 0, typeB), ev(math.MaxInt64, math.MaxUint64, typeB)
	g := guard.New(made(ends))
	added(t, g, 2, least, next, most)
	kept(t, g, 0, least, next, most)
	pruned(t, g, math.MinInt64, 2)
	kept(t, g, 0, next, most)
	pruned(t, g, math.MaxInt64-1, 2)
	kept(t, g, 1, most)
	pruned(t, g, math.MaxInt64, 2)
	kept(t, g, 1)
	added(t, g, 0, least, next, most)

	g = guard.New(made(ends))
	pruned(t, g, math.MinInt64, 0)
	added(t, g, 0, least)
	added(t, g, 2, next)

	g = guard.New(made(ends))
	pruned(t, g, math.MaxInt64, 0)
	added(t, g, 0, least, next, most, ev(0, 0, typeB))
}

// Promises 12.4 to 12.6: numbers of no negation.
func TestNoSuchNegation(t *testing.T) {
	for _, query := range queries {
		p := made(query)
		g := guard.New(p)
		for i := range 60 {
			g.Add(ev(int64(i), 0, i%4, int64(i%3), int64(i%5)))
		}
		for _, neg := range append([]int{len(p.Negs), len(p.Negs) + 1}, wildNumbers...) {
			kept(t, g, neg)
			for seed := range uint64(30) {
				b := drawBinding(scatter(seed), p, 20, nil)
				blocked(t, g, neg, false, b)
				ranged(t, p, neg, b, false, ev(18, 0, typeB), ev(20, 0, typeB))
			}
		}
	}
}

// lists: by word a list, by digit of it an event of that timestamp, the ids rising from 0 on.
func lists(names ...string) api.Binding {
	var b api.Binding
	for _, n := range names {
		var l []api.Event
		for i, r := range n {
			l = append(l, ev(int64(r-'0'), uint64(i), typeA))
		}
		b = append(b, l)
	}
	return b
}

// Promises 12.5 and 12.6: bindings with too few and too many lists, with an empty one among them, and such as fit: their types, numbers and order do not count.
func TestBindingsThatFit(t *testing.T) {
	p := made("SEQ(!B l, A a, !B m, A+ b, !B n, C c, !B o) WITHIN 9")
	g := guard.New(p)
	for ts := range int64(12) {
		added(t, g, 4, ev(ts, 1, typeB))
	}
	for _, b := range []api.Binding{nil, {}, lists("3"), lists("3", "5"), lists("3", "5", "7", "8"), lists("3", "5", "7", ""), lists("", "5", "7"), lists("3", "", "7"), lists("3", "5", ""), lists("", "", ""), {nil, nil, nil}, {{}, nil, {ev(7, 0, typeC)}}, lists("", "3", "5", "7")} {
		for neg := range 4 {
			blocked(t, g, neg, false, b)
			for ts := range int64(12) {
				ranged(t, p, neg, b, false, ev(ts, 1, typeB))
			}
		}
	}
	for _, b := range []api.Binding{lists("3", "5", "7"), lists("12", "456", "89"), lists("3", "44444444555555", "7"), bind(ev(3, 1, -1), ev(5, 1, 99), ev(7, 1, typeB))} {
		for neg := range 4 {
			blocked(t, g, neg, true, b)
		}
	}
	// Lists in another order: the range of m is empty, those of the ends are not.
	back := lists("7", "5", "3")
	for neg, want := range []bool{true, false, false, true} {
		blocked(t, g, neg, want, back)
	}
}

// Promise 12.5: the range begins behind the last event of the list ahead, and ends before the first one of the list behind.
func TestRangesOfLists(t *testing.T) {
	p := made("SEQ(!B l, A+ a, !B m, !C n, A+ b, !B o) WITHIN 5")
	b := api.Binding{{ev(10, 3, typeA), ev(11, 3, typeA), ev(12, 3, typeA)}, {ev(14, 3, typeA), ev(16, 3, typeA)}}
	for _, c := range []struct {
		neg         int
		first, last api.Name // of those in the range, as close to its ends as may be
		ahead, over api.Name // the next ones outside
	}{
		{0, api.Name{Ts: 11}, api.Name{Ts: 10, Id: 2}, api.Name{Ts: 10, Id: math.MaxUint64}, api.Name{Ts: 10, Id: 3}}, // 16 - 5 is 11: none is in it
		{1, api.Name{Ts: 12, Id: 4}, api.Name{Ts: 14, Id: 2}, api.Name{Ts: 12, Id: 3}, api.Name{Ts: 14, Id: 3}},
		{2, api.Name{Ts: 12, Id: 4}, api.Name{Ts: 14, Id: 2}, api.Name{Ts: 12, Id: 3}, api.Name{Ts: 14, Id: 3}},
		{3, api.Name{Ts: 16, Id: 4}, api.Name{Ts: 15, Id: math.MaxUint64}, api.Name{Ts: 16, Id: 3}, api.Name{Ts: 16}}, // 10 + 5 is 15: none is in it
	} {
		for ts := int64(8); ts <= 18; ts++ {
			for _, id := range []uint64{0, 1, 2, 3, 4, 5, math.MaxUint64} {
				n := api.Name{Ts: ts, Id: id}
				ranged(t, p, c.neg, b, !n.Before(c.first) && !c.last.Before(n), ev(ts, id, typeB))
			}
		}
		ranged(t, p, c.neg, b, false, ev(c.ahead.Ts, c.ahead.Id, typeB), ev(c.over.Ts, c.over.Id, typeB))
	}
	wide := made("SEQ(!B l, A+ a, !B m, !C n, A+ b, !B o) WITHIN 7")
	for ts := int64(5); ts <= 20; ts++ {
		for _, id := range []uint64{0, 2, 3, 4, math.MaxUint64} {
			n := api.Name{Ts: ts, Id: id}
			ranged(t, wide, 0, b, ts >= 9 && n.Before(b[0][0].Name()), ev(ts, id, typeB))
			ranged(t, wide, 3, b, ts <= 17 && b[1][1].Name().Before(n), ev(ts, id, typeB))
		}
	}
}

// Promise 12.5: whether the negation guards against the event is not asked.
func TestRangeOfAnyEvent(t *testing.T) {
	p := made(chapter)
	b := bind(ev(1, 1, typeA, 9, 7), ev(4, 1, typeC, 7))
	ranged(t, p, 0, b, true, ev(2, 1, typeB, 1, 7), ev(2, 1, typeB, 2, 8), ev(2, 1, typeA), ev(2, 1, typeD), ev(2, 1, -1), ev(2, 1, math.MaxInt))
}

// Promise 12.5: a query whose only component has a negation on both sides, with windows of 0, 1 and more.
func TestWindowsAroundOneEvent(t *testing.T) {
	for _, within := range []int64{0, 1, 2, 5, api.MaxWindow} {
		p := made(fmt.Sprint("SEQ(!B m, A a, !B n) WITHIN ", within))
		for _, at := range []int64{api.MinTs, -3, 0, 7, api.MaxTs} {
			b := bind(ev(at, 5, typeA))
			ranged(t, p, 0, b, true, ev(at-within, 0, typeB), ev(at, 4, typeB), ev(at, 0, typeB))
			ranged(t, p, 0, b, within > 0, ev(at-within, math.MaxUint64, typeB), ev(at-1, 9, typeB))
			ranged(t, p, 0, b, false, ev(at-within-1, math.MaxUint64, typeB), ev(at, 5, typeB), ev(at, 6, typeB), ev(at+1, 0, typeB))
			ranged(t, p, 1, b, true, ev(at+within, math.MaxUint64, typeB), ev(at, 6, typeB), ev(at, math.MaxUint64, typeB))
			ranged(t, p, 1, b, within > 0, ev(at+within, 0, typeB), ev(at+1, 0, typeB))
			ranged(t, p, 1, b, false, ev(at+within+1, 0, typeB), ev(at, 5, typeB), ev(at, 4, typeB), ev(at-1, math.MaxUint64, typeB))
		}
	}
}

// Promise 12.5: timestamps at the ends of int64, in each place of the binding and of the event: no sum and no difference wraps.
func TestRangeAtWildTimes(t *testing.T) {
	told := map[bool]int{}
	for _, within := range []int64{0, 1, 5, 6, api.MaxWindow} {
		p := made(fmt.Sprint("SEQ(!B l, A a, !B m, A b, !B n) WITHIN ", within))
		for _, first := range wildTimes {
			for _, last := range wildTimes {
				b := bind(ev(first, 5, typeA), ev(last, 5, typeA))
				for _, ts := range wildTimes {
					for neg := range 3 {
						for _, id := range []uint64{4, 5, 6} {
							e := ev(ts, id, typeB)
							want := inRange(p, neg, b, e)
							told[want]++
							ranged(t, p, neg, b, want, e)
						}
					}
				}
			}
		}
	}
	if told[true] < 5000 || told[false] < 5000 {
		t.Errorf("12.5: %v come up", told)
	}
}

// Promise 12.6: the same timestamps in a buffer.
func TestBlockedAtWildTimes(t *testing.T) {
	told := map[bool]int{}
	for _, within := range []int64{0, 1, 5, 6, api.MaxWindow} {
		p := made(fmt.Sprint("SEQ(!B l, A a, !B m, A b, !B n) WITHIN ", within))
		for step := 1; step <= 4; step++ {
			q := open(t, "wild times", p)
			for i := step - 1; i < len(wildTimes); i += step {
				q.add(ev(wildTimes[i], 5, typeB))
			}
			for _, first := range wildTimes {
				for _, last := range wildTimes {
					b := bind(ev(first, 5, typeA), ev(last, 5, typeA))
					q.ask("wild times", b)
					told[q.guards.Blocked(0, b) || q.guards.Blocked(2, b)]++
				}
			}
		}
	}
	if told[true] < 1000 || told[false] < 1000 {
		t.Errorf("12.6: %v come up", told)
	}
}

// Promise 12.6: just one event of a long row is in the range, at each place of it, at each end of the buffer.
func TestOneOfALongRow(t *testing.T) {
	for _, many := range []int{0, 1, 2, 3, 4, 5, 8, 9, 40} {
		g := guard.New(made("SEQ(A a, !B n, C c) WHERE n.k = a.k WITHIN 500"))
		for i := range many {
			added(t, g, 1, ev(int64(10*i), uint64(i%3), typeB, 0, int64(i)))
		}
		for i := -1; i <= many; i++ {
			at, id := int64(10*i), uint64((i+3)%3)
			there := i >= 0 && i < many
			from, to := ev(at-1, 9, typeA, 0, int64(i)), ev(at+1, 0, typeC, 0)
			blocked(t, g, 0, there, bind(from, to))
			blocked(t, g, 0, there, bind(ev(at-55, 9, typeA, 0, int64(i)), ev(at+55, 0, typeC, 0)))
			blocked(t, g, 0, there, bind(ev(math.MinInt64, 0, typeA, 0, int64(i)), ev(math.MaxInt64, 0, typeC, 0)))
			blocked(t, g, 0, false, bind(ev(at, id, typeA, 0, int64(i)), to), bind(from, ev(at, id, typeC, 0)))
			blocked(t, g, 0, there, bind(from, ev(at, id+1, typeC, 0)))
			if id > 0 {
				blocked(t, g, 0, there, bind(ev(at, id-1, typeA, 0, int64(i)), to))
			}
		}
	}
}

// Promise 12.6: conditions that are true, false and unknown, that mention the item and components ahead of it and behind it, single and repeated ones.
func TestBlockedByRest(t *testing.T) {
	b := api.Binding{{ev(1, 1, typeA, 4, 0), ev(2, 1, typeA, 6, 2)}, {ev(8, 1, typeC, 3)}, {ev(9, 1, typeB, 5, 1)}}
	for _, c := range []struct {
		where string
		want  bool
	}{
		{"", true}, {"TRUE", true}, {"FALSE", true}, {"c.k = 99", true}, // none of them mentions the item
		{"n.x = c.k", true}, {"n.x = c.k + 1", false}, {"n.x = b.x - 2", true}, {"n.x = b.x", false}, {"n.x + b.k = c.k + 1", true},
		{"n.x / b.k = 3", true}, {"n.x / (b.k - 1) = 3", false}, {"NOT (n.x / (b.k - 1) = 3)", false}, {"n.x / (b.k - 1) = 3 OR n.x = c.k", true}, {"n.x = c.k AND 1 / (n.x - c.k) > 0", false},
		{"n.k = SUM(a.x)", true}, {"n.k = SUM(a.x) + 1", false}, {"n.x > COUNT(a)", true}, {"n.x < COUNT(a)", false}, {"n.k = FIRST(a.x) + LAST(a.x)", true}, {"n.k > MAX(a.x) AND n.x < MIN(a.x)", true}, {"n.k > MAX(a.x) AND n.x > MIN(a.x)", false}, {"n.k < MAX(a.x) AND n.x < MIN(a.x)", false},
		{"n.ts > FIRST(a.ts) AND n.ts < b.ts", true}, {"n.ts - c.ts = -3", true}, {"n.x = c.k AND n.k = c.k + 7 AND n.x + n.k = 13", true}, {"n.x = c.k AND n.k = c.k + 7 AND n.x + n.k = 12", false},
		{"n.x = c.k AND b.x = 99 AND COUNT(a) = 7", true}, // the others do not mention it
	} {
		where := ""
		if c.where != "" {
			where = " WHERE " + c.where
		}
		g := guard.New(made("SEQ(A+ a, !B n, C c, B b)" + where + " WITHIN 50"))
		g.Add(ev(5, 1, typeB, 3, 10))
		if got := g.Blocked(0, b); got != c.want {
			t.Errorf("12.6: %s: %v", c.where, got)
		}
	}
}

// Promise 12.6: of several events in the range one is enough, the first, one in the midst or the last one; and it must meet all conditions by itself.
func TestBlockedByOneOfSeveral(t *testing.T) {
	b := bind(ev(1, 1, typeA, 4, 6), ev(9, 1, typeC, 3))
	for mask := range 64 {
		g := guard.New(made("SEQ(A a, !B n, C c) WHERE n.x = a.x AND n.k = c.k + 3 WITHIN 50"))
		want := false
		for i := range 3 {
			x, k := int64(mask>>(2*i)&1), int64(mask>>(2*i+1)&1)
			want = want || x == 1 && k == 1
			g.Add(ev(int64(2+i), 1, typeB, 3+x, 5+k))
		}
		blocked(t, g, 0, want, b)
	}
}

// Promises 12.2 and 12.6: two negations beside each other have the same range, and a buffer each.
func TestTwoBesideEachOther(t *testing.T) {
	p := made("SEQ(A+ a, !B n, !B m, C c) WHERE n.x > SUM(a.x) AND m.k = c.k AND m.x = 3 WITHIN 9")
	g := guard.New(p)
	added(t, g, 1, ev(3, 1, typeB, 6, 2))
	added(t, g, 2, ev(4, 1, typeB, 3, 2))
	kept(t, g, 0, ev(3, 1, typeB, 6, 2), ev(4, 1, typeB, 3, 2))
	kept(t, g, 1, ev(4, 1, typeB, 3, 2))
	for sum, first := range map[int64]bool{4: true, 5: true, 6: false, 7: false} {
		for k, second := range map[int64]bool{1: false, 2: true, 3: false} {
			b := api.Binding{{ev(1, 1, typeA, 2), ev(2, 1, typeA, sum-2)}, {ev(5, 1, typeC, k)}}
			blocked(t, g, 0, first, b)
			blocked(t, g, 1, second, b)
		}
	}
}

// Promise 12.6: a binding's lists are asked as they are at the call: written over behind it they change no answer, and the next call sees what stands in them then.
func TestBindingsWrittenOver(t *testing.T) {
	g := guard.New(made(chapter))
	added(t, g, 1, ev(2, 1, typeB, 1, 7), ev(8, 1, typeB, 1, 9))
	a, c := []api.Event{ev(1, 1, typeA, 9, 7), {}, {}}, []api.Event{ev(4, 1, typeC, 7), {}}
	b := api.Binding{a[:1], c[:1]}
	for range 3 {
		a[0], c[0] = ev(1, 1, typeA, 9, 7), ev(4, 1, typeC, 7)
		blocked(t, g, 0, true, b)
		a[0].Attrs[1] = 8
		blocked(t, g, 0, false, b)
		a[0].Attrs[1] = 9
		blocked(t, g, 0, false, b)
		c[0].Ts = 9
		blocked(t, g, 0, true, b)
		a[0].Ts = 8
		blocked(t, g, 0, false, b)
		scrawl(a[:1])
		scrawl(c[:1])
		kept(t, g, 0, ev(2, 1, typeB, 1, 7), ev(8, 1, typeB, 1, 9))
	}
}

package plan_test

import (
	"math"
	"testing"

	"sluice/api"
	"sluice/plan"
)

// asks: a number of a component or a negated item, an event, and whether it may stand there.
type asks struct {
	number int
	e      api.Event
	want   bool
}

// wildNumbers: numbers of which few are anybody's.
var wildNumbers = []int{math.MinInt, math.MinInt + 1, -3, -2, -1, 0, 1, 2, 3, 7, 8, 9, 10, 11, 1000, math.MaxInt - 1, math.MaxInt}

// Promise 8.4.
func TestTakes(t *testing.T) {
	p := made(plain, "SEQ((A|B) a, !C n, B+ b, C c) WHERE a.x > 2 AND a.k != 0 AND n.k = 1 AND b.x = 3 AND b.ts = 5 AND b.x > a.k AND b.k = COUNT(b) AND FALSE")
	for i, c := range []asks{
		{0, ev(0, 5, 3, 1), true}, {0, ev(1, 5, 3, 1), true}, {0, ev(0, math.MinInt64, 3, 1), true}, {0, ev(0, 5, math.MaxInt64, -1), true},
		{0, ev(2, 5, 3, 1), false}, {0, ev(0, 5, 2, 1), false}, {0, ev(0, 5, 3, 0), false}, {0, ev(1, 5, 2, 1), false}, {0, ev(1, 5, 3, 0), false},
		{1, ev(1, 5, 3, 0), true}, {1, ev(1, 5, 3, 9), true}, {1, ev(0, 5, 3, 0), false}, {1, ev(1, 5, 4, 0), false}, {1, ev(1, 6, 3, 0), false}, {1, ev(2, 5, 3, 0), false},
		// Without a filter of its own the type alone counts.
		{2, ev(2, 0), true}, {2, ev(2, 0, 1, 2, 3, 4, 5, 6, 7, 8), true}, {2, ev(0, 0), false}, {2, ev(1, 5, 3), false}, {2, ev(-1, 0), false}, {2, ev(3, 0), false},
		// Whether it is an event of the schema is not asked otherwise.
		{0, ev(0, math.MaxInt64, 3, 1, 9, 9, 9, 9, 9, 9), true},
		{0, ev(-1, 5, 3, 1), false}, {0, ev(3, 5, 3, 1), false}, {0, ev(math.MinInt, 5, 3, 1), false}, {0, ev(math.MaxInt, 5, 3, 1), false},
	} {
		if got := plan.Takes(p, c.number, c.e); got != c.want {
			t.Errorf("8.4: row %d: %v", i, got)
		}
	}
	for _, number := range wildNumbers {
		for _, e := range []api.Event{ev(0, 5, 3, 1), ev(1, 5, 3, 1), ev(2, 5, 1)} {
			if plan.Takes(p, number, e) && (number < 0 || number > 2) {
				t.Errorf("8.4: the component %d takes %v", number, e)
			}
		}
	}
	// An unknown filter is not true; nor is it by being denied.
	for _, text := range []string{"a.x / a.k = 1", "NOT (a.x / a.k = 1)", "a.x % a.k = 0 OR a.x = 9"} {
		if plan.Takes(made(plain, "SEQ(A a) WHERE "+text), 0, ev(0, 5, 3, 0)) {
			t.Errorf("8.4: %s is taken for true", text)
		}
	}
	if !plan.Takes(made(plain, "SEQ(A a) WHERE a.x / a.k = 1 OR a.k = 0"), 0, ev(0, 5, 3, 0)) {
		t.Error("8.4: what is unknown beside what is true")
	}
	// The last item that a query can have.
	p = made(plain, "SEQ(A a, A b, A c, A d, A e, A f, A g, A h, !A i, A j) WHERE j.x = 1 AND i.x = 2")
	if !plan.Takes(p, 8, ev(0, 5, 1)) || plan.Takes(p, 8, ev(0, 5, 2)) || plan.Takes(p, 9, ev(0, 5, 1)) || !plan.Guards(p, 0, ev(0, 5, 2)) || plan.Guards(p, 0, ev(0, 5, 1)) {
		t.Error("8.4, 8.5: the last items of ten")
	}
}

// Promise 8.4: an attribute is read where the event's own type has it.
func TestTakesByType(t *testing.T) {
	p := made(unlike, "SEQ((A|B|E) a, !(E|B) n) WHERE a.k = 7 AND n.k = 8")
	for typ, place := range map[int]int{0: 0, 1: 2, 4: 7} {
		for i := range api.MaxAttrs {
			e := api.Event{Type: typ}
			e.Attrs[i] = 7
			if got := plan.Takes(p, 0, e); got != (i == place) {
				t.Errorf("8.4: type %d, 7 at the place %d: %v", typ, i, got)
			}
			e.Attrs[i] = 8
			if got := plan.Guards(p, 0, e); got != (i == place && typ != 0) {
				t.Errorf("8.5: type %d, 8 at the place %d: %v", typ, i, got)
			}
		}
	}
}

// Promise 8.5.
func TestGuards(t *testing.T) {
	p := made(plain, "SEQ(!C m, A a, !(B|C) n, !B o) WHERE m.k = 1 AND m.ts < 9 AND n.k = 2 AND n.k = a.k AND n.ts > COUNT(a) AND o.x = a.x AND a.x = 1 AND FALSE")
	for i, c := range []asks{
		{0, ev(2, 5, 1), true}, {0, ev(2, 8, 1), true}, {0, ev(2, 9, 1), false}, {0, ev(2, 5, 2), false}, {0, ev(1, 5, 1, 1), false}, {0, ev(0, 5, 1, 1), false},
		{1, ev(1, 5, 0, 2), true}, {1, ev(1, 0, 2, 2), true}, {1, ev(1, 5, 2, 0), false}, {1, ev(2, 5, 2), true}, {1, ev(2, 5, 1, 2), false}, {1, ev(0, 5, 2, 2), false},
		// What mentions another item too is not asked here.
		{2, ev(1, 5, 9, 9), true}, {2, ev(1, 5), true}, {2, ev(2, 5), false}, {2, ev(0, 5), false},
		{0, ev(-1, 5, 1), false}, {0, ev(3, 5, 1), false}, {0, ev(math.MinInt, 5, 1), false}, {2, ev(math.MaxInt, 5, 1), false},
	} {
		if got := plan.Guards(p, c.number, c.e); got != c.want {
			t.Errorf("8.5: row %d: %v", i, got)
		}
	}
	none := made(plain, "SEQ((A|B) a, C c)")
	for _, number := range wildNumbers {
		for _, e := range []api.Event{ev(0, 5, 1, 2), ev(1, 5, 2, 2), ev(2, 5, 1)} {
			if plan.Guards(p, number, e) && (number < 0 || number > 2) || plan.Guards(none, number, e) {
				t.Errorf("8.5: the negated item %d guards against %v", number, e)
			}
		}
	}
}

// Promise 8.6.
func TestInStream(t *testing.T) {
	p := made(unlike, "SEQ(A a, !C n, (B|A) b) WHERE a.x = 1 AND FALSE")
	for typ, want := range []bool{true, true, true, false, false, false} {
		for _, e := range []api.Event{ev(typ, 0), ev(typ, math.MaxInt64, 1, 2, 3, 4, 5, 6, 7, 8)} {
			if got := plan.InStream(p, e); got != want {
				t.Errorf("8.6: type %d: %v", typ, got)
			}
		}
	}
	for _, typ := range wildNumbers {
		if got := plan.InStream(p, ev(typ, 0)); got != (typ >= 0 && typ <= 2) {
			t.Errorf("8.6: type %d: %v", typ, got)
		}
	}
}

// Promise 8.7.
func TestKey(t *testing.T) {
	values := []int64{10, 11, 12, 13, 14, 15, 16, math.MinInt64}
	for _, c := range []struct {
		schema, query string
		want          []int64
	}{
		{plain, "SEQ(A a, !B n, C c) PARTITION BY k", []int64{11, 11, 10}},
		{plain, "SEQ(A a, !B n, C c)", []int64{0, 0, 0}},
		{plain, "SEQ(A a) PARTITION BY x", []int64{10, 0, 0}},
		{plain, "SEQ(A a, !C n) PARTITION BY k", []int64{11, 0, 10}},
		{unlike, "SEQ((A|B) a, !E n) PARTITION BY k", []int64{10, 12, 0, 0, math.MinInt64}},
		{unlike, "SEQ(B a) PARTITION BY y", []int64{0, 11, 0, 0, 0}},
	} {
		p := made(c.schema, c.query)
		for typ, want := range c.want {
			if got := plan.Key(p, ev(typ, 99, values...)); got != want {
				t.Errorf("8.7: %s: type %d: %d", c.query, typ, got)
			}
		}
		for _, typ := range wildNumbers {
			if got := plan.Key(p, ev(typ, 99, values...)); (typ < 0 || typ >= len(c.want)) && got != 0 {
				t.Errorf("8.7: %s: type %d: %d", c.query, typ, got)
			}
		}
	}
	if plan.Key(made(plain, "SEQ(A a) PARTITION BY k"), ev(0, 1, 5, 7)) != 7 || plan.Key(made(plain, "SEQ(A a)"), ev(0, 1, 5, 7)) != 0 {
		t.Error("8.7: the example")
	}
}

// Promise 8.8.
func TestSpread(t *testing.T) {
	type lists = [][]api.Event
	e, f, g, h := ev(0, 1, 1), ev(2, 2, 2), ev(2, 3, 3), ev(9, -4, 4, 4, 4, 4, 4, 4, 4, 4)
	three := "SEQ(!B m, A a, !B n, !C o, C+ c, A d, !A l)"
	for i, c := range []struct {
		query string
		b     api.Binding
		want  lists
	}{
		{"SEQ(A a, !B n, C c)", api.Binding{{e}, {f}}, lists{{e}, nil, {f}}},
		{"SEQ(A a)", api.Binding{{e}}, lists{{e}}},
		{"SEQ(A a)", nil, lists{nil}},
		{three, api.Binding{{e}, {f, g}, {h}}, lists{nil, {e}, nil, nil, {f, g}, {h}, nil}},
		{three, api.Binding{{e}, {g, f, g}}, lists{nil, {e}, nil, nil, {g, f, g}, nil, nil}},
		{three, api.Binding{{e}}, lists{nil, {e}, nil, nil, nil, nil, nil}},
		{three, api.Binding{}, make(lists, 7)}, {three, nil, make(lists, 7)},
		{three, api.Binding{{e}, {f}, {g}, {h}, {e}, {e}, {e}, {e}}, lists{nil, {e}, nil, nil, {f}, {g}, nil}},
		{three, api.Binding{nil, {f}, {}}, lists{nil, nil, nil, nil, {f}, nil, nil}},
		// As many as there are: neither Lo and Hi nor the types are asked.
		{"SEQ(A a, C c{2,3})", api.Binding{{h, h, h, h, h, h}, {e}}, lists{{h, h, h, h, h, h}, {e}}},
	} {
		if got := plan.Spread(made(plain, c.query), c.b); told(got) != told(c.want) {
			t.Errorf("8.8: row %d: %v, want %v", i, got, c.want)
		}
	}
}

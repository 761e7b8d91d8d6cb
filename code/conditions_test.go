package code_test

import (
	"math"
	"testing"

	"sluice/api"
	"sluice/code"
)

// Promise 7.7.
func TestHolds(t *testing.T) {
	for _, c := range []struct {
		p    api.Program
		want bool
	}{
		{program(push(1)), true}, {program(push(0)), false}, {program(push(5)), true}, {program(push(-1)), true}, {program(push(math.MinInt64)), true},
		{program(unknown...), false}, {program(), false}, {program(push(1), push(1)), false}, {program(push(1), plainly(99)), false}, {program(push(1), ifNo(1)), false},
		{programOf("a.x = 3"), true}, {programOf("a.x = 4"), false}, {programOf("b.x = 3"), false}, {programOf("NOT (b.x = 3)"), false}, {programOf("a.x + TRUE"), false},
	} {
		if got := code.Holds(c.p, api.Env{Lists: told(), Each: -1}); got != c.want {
			t.Errorf("7.7: %+v: %v", c.p, got)
		}
	}
	for at, want := range []bool{false, true, false, false} {
		if got := code.Holds(programOf("b.k = 9"), api.Env{Lists: told(), Each: 1, At: at}); got != want {
			t.Errorf("7.7: at %d: %v", at, got)
		}
	}
}

// ks: the lists of the examples, with other events of b.
func ks(list ...int64) [][]api.Event {
	out := [][]api.Event{told()[0], nil}
	for i, k := range list {
		out[1] = append(out[1], made(1, int64(i), k))
	}
	return out
}

// Promise 7.8, with Prev and without, over lists of none, one and several events.
func TestEvery(t *testing.T) {
	for _, c := range []struct {
		text        string
		each        int
		lists       [][]api.Event
		all, second bool // without Prev, with it
	}{
		{"FALSE", 1, ks(), true, true}, {"FALSE", 1, ks(4), false, true}, {"FALSE", 1, ks(4, 5), false, false}, {"TRUE", 1, ks(4, 5), true, true},
		{"b.k = 4", 1, ks(4), true, true}, {"b.k = 4", 1, ks(4, 4, 4), true, true}, {"b.k = 4", 1, ks(5, 4, 4), false, true}, {"b.k = 4", 1, ks(4, 5, 4), false, false}, {"b.k = 4", 1, ks(4, 4, 5), false, false}, {"b.k = 4", 1, ks(5), false, true},
		{"b.k > PREV(b.k)", 1, ks(), true, true}, {"b.k > PREV(b.k)", 1, ks(4), false, true}, {"b.k > PREV(b.k)", 1, ks(4, 5, 6), false, true}, {"b.k > PREV(b.k)", 1, ks(4, 5, 5), false, false}, {"b.k > PREV(b.k)", 1, ks(5, 4, 6), false, false},
		{"b.k < MAX(b.k) OR b.k = 9", 1, ks(4, 9, 8), true, true}, {"b.k = a.k OR b.k = a.x", 1, ks(9, 3), true, true}, {"b.k = a.k", 1, ks(9, 3), false, false},
		{"b.x = 1", 1, ks(4), false, true}, {"NOT (b.x = 1)", 1, ks(4, 4), false, false}, {"b.x = 1", 1, ks(), true, true},
		{"a.x = 3", 0, ks(), true, true}, {"a.x = 4", 0, ks(), false, true}, {"b.k = 4", 0, ks(4, 5), true, true}, {"b.k = 5", 0, ks(4, 5), false, true},
		{"a.x = 3", 1, ks(4, 5), true, true}, {"a.x = 4", 1, ks(4, 5), false, false}, {"a.x = 4", 1, ks(4), false, true},
		{"FALSE", 2, ks(4), true, true}, {"FALSE", 0, nil, true, true}, {"a.x + TRUE", 5, ks(4), true, true}, {"FALSE", math.MaxInt, ks(4), true, true}, {"FALSE", 0, [][]api.Event{}, true, true}, {"FALSE", 0, [][]api.Event{nil}, true, true},
		{"a.x + TRUE", 1, ks(), true, true}, {"a.x + TRUE", 1, ks(4), false, true}, {"a.x + TRUE", 1, ks(4, 5), false, false},
		{"a.x = 3", -1, ks(), true, true}, {"a.x = 4", -1, ks(), false, false}, {"b.k = 4", -1, ks(4, 5), true, true}, {"b.k = 5", -1, ks(4, 5), false, false}, {"b.k = 5", -1, ks(), false, false}, {"TRUE", -1, nil, true, true}, {"FALSE", -1, nil, false, false}, {"PREV(b.k) = 4", -1, ks(4, 5), false, false}, {"a.x + TRUE", -1, ks(4), false, false},
		{"TRUE", -2, ks(4), false, false}, {"TRUE", -3, nil, false, false}, {"TRUE", math.MinInt, ks(4), false, false}, {"FALSE", -2, ks(4), false, false},
	} {
		p := programOf(c.text)
		if got := code.Every(api.Cond{Prog: p, Each: c.each}, c.lists); got != c.all {
			t.Errorf("7.8: %s for each of %d in %v: %v", c.text, c.each, c.lists, got)
		}
		if got := code.Every(api.Cond{Prog: p, Each: c.each, Prev: true}, c.lists); got != c.second {
			t.Errorf("7.8: %s for each of %d from the second on in %v: %v", c.text, c.each, c.lists, got)
		}
	}
}

// Promise 7.8 by its words, over scattered programs and lists.
func TestEveryByHolds(t *testing.T) {
	pick := scatter(3)
	count := map[bool]int{}
	for range 40000 {
		g := grower{pick: pick, odd: []int{1000, 60, 20}[pick(3)]}
		s, q := g.schema(), g.query()
		p := g.program(4, 4)
		if g.pick(4) > 0 {
			p = code.Compile(s, q, nodes(g.expr(true, g.pick(4))))
		}
		env := g.env(len(s.Types), len(q.Items))
		c := api.Cond{Prog: p, Each: g.number(len(q.Items)+4) - 3, Prev: g.pick(2) == 0}
		want := c.Each >= -1
		if c.Each == -1 {
			want = code.Holds(p, api.Env{Lists: env.Lists, Each: -1, At: 0})
		}
		for i, list := range env.Lists {
			for at := range list {
				if i == c.Each && (at > 0 || !c.Prev) && !code.Holds(p, api.Env{Lists: env.Lists, Each: i, At: at}) {
					want = false
				}
			}
		}
		count[want]++
		if got := code.Every(c, env.Lists); got != want {
			t.Fatalf("7.8: %+v, %v: %v", c, env.Lists, got)
		}
	}
	if count[true] < 5000 || count[false] < 5000 {
		t.Errorf("7.8: %v come up", count)
	}
}

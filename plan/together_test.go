package plan_test

import (
	"fmt"
	"slices"
	"testing"

	"sluice/api"
	"sluice/code"
	"sluice/num"
	"sluice/plan"
)

// wellFormed: a scattered query that has a plan.
func wellFormed(g grower) (api.Schema, api.Query, api.Plan) {
	for {
		s, q := g.given()
		if p, flaw := plan.Build(s, q); flaw == (api.Flaw{}) {
			return s, q, p
		}
	}
}

// holds: is a conjunct true in the meaning of DOC.md's rule 5, by its tree?
func (x term) holds(s api.Schema, q api.Query, lists [][]api.Event) bool {
	each := x.goesThrough(q)
	first, behind := 0, 1
	if each >= 0 {
		behind = len(lists[each])
	}
	if x.saysPrev() {
		first = 1
	}
	for at := first; at < behind; at++ {
		if !num.True(code.Eval(s, q, nodes(x), api.Env{Lists: lists, Each: each, At: at})) {
			return false
		}
	}
	return true
}

// where: is each conjunct of Where true that mentions no negated variable?
func where(s api.Schema, q api.Query, lists [][]api.Event) bool {
	return !slices.ContainsFunc(conjunctsOf(q), func(x term) bool { return !x.saysAny(q, negated) && !x.holds(s, q, lists) })
}

// byTable: the same, as a plan says it.
func byTable(p api.Plan, b api.Binding) bool {
	lists := plan.Spread(p, b)
	for _, x := range p.Fixed {
		if !code.Holds(x, api.Env{Lists: lists, Each: -1}) {
			return false
		}
	}
	for number, c := range p.Comps {
		for _, e := range b[number] {
			if !plan.Takes(p, number, e) {
				return false
			}
		}
		for _, x := range c.Conds {
			if !code.Every(x, lists) {
				return false
			}
		}
	}
	return true
}

// Promise 8.9.
func TestTheTableIsWhere(t *testing.T) {
	pick := scatter(2)
	count := map[string]int{}
	for range 6000 {
		g := grower{pick: pick, odd: 1000}
		s, q, p := wellFormed(g)
		// What is decided by each conjunct alone is seen best where there are few.
		few := len(conjunctsOf(q)) <= 2
		for range 12 {
			b := g.binding(p)
			want := where(s, q, plan.Spread(p, b))
			if got := byTable(p, b); got != want {
				t.Fatalf("8.9: %+v, %+v: %v, want %v", q, b, got, want)
			}
			count[fmt.Sprint(want, few)]++
		}
	}
	for kind, least := range map[string]int{"true true": 5000, "false true": 5000, "true false": 2000, "false false": 5000} {
		if count[kind] < least {
			t.Errorf("8.9: %s comes up %d times: too seldom", kind, count[kind])
		}
	}
}

// Promise 8.9: each binding of a few events, for conjuncts of each kind.
func TestTheTableIsWhereEverywhere(t *testing.T) {
	s := schemaOf(plain)
	lists := func(typ, lo, hi int) [][]api.Event {
		out, last := [][]api.Event{}, [][]api.Event{nil}
		for n := 1; n <= hi; n++ {
			var next [][]api.Event
			for _, l := range last {
				for x := range int64(3) {
					next = append(next, append(slices.Clone(l), ev(typ, x, x, 2-x)))
				}
			}
			if n >= lo {
				out = append(out, next...)
			}
			last = next
		}
		return out
	}
	for _, text := range []string{
		"b.x > 0", "b.x > PREV(b.x)", "PREV(b.x) = 1", "b.x >= a.x", "a.x <= b.x AND PREV(b.k) != a.k", "SUM(b.x) = 3", "b.x < MAX(b.x) OR COUNT(b) = 1", "a.x = COUNT(b)", "a.x = 1", "COUNT(a) = 1 AND b.x = LAST(b.x)",
		"1 / 0 = 1 OR a.x = 1", "NOT (b.x / a.x = 1)", "TRUE", "FALSE", "a.x = FIRST(b.x) AND a.x = LAST(b.x)", "n.x = 1", "n.x = a.x AND b.x = 2", "FALSE AND n.x = COUNT(b)", "1 = 1 AND b.x % 2 = a.x % 2", "a.x = b.x OR a.k = PREV(b.k)",
	} {
		q := queryOf("SEQ(A a, !B n, B b{1,3}) WHERE " + text)
		p := planOf(s, q)
		told := map[bool]int{}
		for _, l := range lists(0, 1, 1) {
			for _, m := range lists(1, 1, 3) {
				b := api.Binding{l, m}
				want := where(s, q, [][]api.Event{l, nil, m})
				if got := byTable(p, b); got != want {
					t.Fatalf("8.9: %s, %v: %v, want %v", text, b, got, want)
				}
				told[want]++
			}
		}
		if told[true]+told[false] != 3*39 {
			t.Errorf("8.9: %s: %d bindings", text, told[true]+told[false])
		}
	}
}

// Promise 8.10.
func TestTheTableIsTheNegations(t *testing.T) {
	pick := scatter(3)
	count := map[string]int{}
	for range 10000 {
		g := grower{pick: pick, odd: 1000}
		s, q, p := wellFormed(g)
		for number, n := range p.Negs {
			v := q.Items[n.Item].Var
			for range 8 {
				lists := plan.Spread(p, g.binding(p))
				f := g.event(n.Types)
				lists[n.Item] = []api.Event{f}
				env := api.Env{Lists: lists, Each: -1}
				got := plan.Guards(p, number, f)
				for _, x := range n.Rest {
					got = got && code.Holds(x, env)
				}
				want := true
				for _, x := range conjunctsOf(q) {
					want = want && (!x.says(v) || num.True(code.Eval(s, q, nodes(x), env)))
				}
				if got != want {
					t.Fatalf("8.10: %+v, %d, %+v: %v, want %v", q, number, lists, got, want)
				}
				count[fmt.Sprint(want, len(n.Own) > 0, len(n.Rest) > 0)]++
			}
		}
	}
	for _, kind := range []string{"true true false", "false true false", "true false true", "false false true", "true true true", "false true true", "true false false"} {
		if count[kind] < 500 {
			t.Errorf("8.10: %s comes up %d times: too seldom", kind, count[kind])
		}
	}
}

// readsItem: does the instruction read something of an item?
func readsItem(in api.Instr) bool { return in.Code >= api.CodeLoad && in.Code <= api.CodeLast }

// Promise 8.11.
func TestAsEarlyAsMayBe(t *testing.T) {
	pick := scatter(4)
	behind := 0
	for range 6000 {
		g := grower{pick: pick, odd: 1000}
		_, q, p := wellFormed(g)
		for number, c := range p.Comps {
			for _, x := range c.Conds {
				mentions := false
				for _, in := range x.Prog.Code {
					mentions = mentions || readsItem(in) && in.Item == c.Item
				}
				if !mentions {
					t.Fatalf("8.11: %+v: a condition of the component %d does not mention it: %+v", q, number, x)
				}
				b, other := g.binding(p), g.binding(p)
				want := code.Every(x, plan.Spread(p, b))
				copy(b[:number], other[:number])
				if number > 0 {
					behind++
				}
				if got := code.Every(x, plan.Spread(p, b)); got != want {
					t.Fatalf("8.11: %+v: a condition of the component %d hangs on one ahead of it: %+v", q, number, x)
				}
				clear(b[:number])
				if got := code.Every(x, plan.Spread(p, b)); got != want {
					t.Fatalf("8.11: %+v: a condition of the component %d hangs on one ahead of it being there: %+v", q, number, x)
				}
			}
		}
	}
	if behind < 1000 {
		t.Errorf("8.11: %d conditions behind the first component: too few", behind)
	}
}

// renamed: the query with other names of its variables.
func renamed(q api.Query, names map[string]string) api.Query {
	other := func(t []api.Node) []api.Node {
		t = slices.Clone(t)
		for i := range t {
			t[i].Var = names[t[i].Var]
		}
		return t
	}
	q.Items, q.Ret = slices.Clone(q.Items), slices.Clone(q.Ret)
	for i := range q.Items {
		q.Items[i].Var = names[q.Items[i].Var]
	}
	q.Where = other(q.Where)
	for i := range q.Ret {
		q.Ret[i] = other(q.Ret[i])
	}
	return q
}

// Promise 8.12.
func TestNamesAreFree(t *testing.T) {
	pick := scatter(5)
	pool := []string{"T0", "T1", "x", "y", "k", "ts", "_", "a", "type", "seqs", "abcdefghijklmnop", "Abcdefghijklmnop", "v4", "v3", "v2", "v1", "v0"}
	for range 5000 {
		g := grower{pick: pick, odd: 1000}
		s, q, p := wellFormed(g)
		for i := range pool {
			j := i + pick(len(pool)-i)
			pool[i], pool[j] = pool[j], pool[i]
		}
		names := map[string]string{}
		for i, item := range q.Items {
			names[item.Var] = pool[i]
		}
		other := renamed(q, names)
		got := planOf(s, other)
		if told(got.Query) != told(other) {
			t.Fatalf("8.1: %+v: the plan's query is %+v", other, got.Query)
		}
		got.Query = p.Query
		if told(got) != told(p) {
			t.Fatalf("8.12: %+v with the names %v:\n%+v, want\n%+v", q, names, got, p)
		}
	}
}

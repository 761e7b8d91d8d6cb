package plan_test

import (
	"fmt"
	"math"
	"slices"
	"strings"
	"testing"

	"sluice/api"
	"sluice/check"
	"sluice/code"
	"sluice/event"
	"sluice/parse"
	"sluice/plan"
)

// plain: the schema of the chapter's examples. unlike: one whose types have k at unlike places.
const (
	plain  = "type A(x, k) type B(x, k) type C(k)"
	unlike = "type A(k, x) type B(x, y, k) type C(x) type D() type E(a, b, c, d, e, f, g, k)"
)

func schemaOf(text string) api.Schema {
	s, code, _ := event.ParseSchema(text)
	if code != api.OK {
		panic("no schema: " + text)
	}
	return s
}

// queryOf: the query of a text without the word PATTERN; a text without a window gets WITHIN 5.
func queryOf(text string) api.Query {
	if !strings.Contains(text, "WITHIN") {
		head, by, found := strings.Cut(text, " PARTITION")
		text = head + " WITHIN 5"
		if found {
			text += " PARTITION" + by
		}
	}
	q, _, code, at := parse.Parse("PATTERN " + text)
	if code != api.OK {
		panic(fmt.Sprintf("no query: %q: %d at %d", text, int(code), at))
	}
	return q
}

func treeOf(text string) []api.Node {
	t, _, code, _ := parse.Expr(text)
	if code != api.OK {
		panic("no expression: " + text)
	}
	return t
}

// planOf: the plan of a query that is well formed.
func planOf(s api.Schema, q api.Query) api.Plan {
	p, flaw := plan.Build(s, q)
	if flaw != (api.Flaw{}) {
		panic(fmt.Sprintf("no plan: %+v: %d", q, int(flaw.Code)))
	}
	return p
}

// made: the plan of two texts.
func made(schema, query string) api.Plan { return planOf(schemaOf(schema), queryOf(query)) }

// ev: an event of a type.
func ev(typ int, ts int64, attrs ...int64) api.Event {
	e := api.Event{Ts: ts, Id: 1, Type: typ}
	copy(e.Attrs[:], attrs)
	return e
}

// told: any value as a text, nil and empty lists being the same.
func told(x any) string { return fmt.Sprintf("%+v", x) }

// shape: what a plan says beside its programs: the components, the negated items, then the types and whether one leads and one trails.
func shape(p api.Plan) string {
	var out []string
	for _, c := range p.Comps {
		out = append(out, fmt.Sprintf("%d%v{%d,%d}", c.Item, c.Types, c.Lo, c.Hi))
	}
	for _, n := range p.Negs {
		out = append(out, fmt.Sprintf("!%d%v(%d,%d)", n.Item, n.Types, n.After, n.Before))
	}
	used := ""
	for _, u := range p.Used {
		used += map[bool]string{true: "+", false: "-"}[u]
	}
	return strings.Join(append(out, used, fmt.Sprint(p.Cols, p.Lead, p.Tail)), " ")
}

// Promise 8.1: the chapter's examples, and the edges of each field.
func TestTheTable(t *testing.T) {
	for _, c := range []struct{ schema, query, want string }{
		{plain, "SEQ(A a, !B n, C c) PARTITION BY k", "0[0]{1,1} 2[2]{1,1} !1[1](0,1) +++ [1 1 0] false false"},
		{plain, "SEQ(!B m, !C n, A a, !B o)", "2[0]{1,1} !0[1](-1,0) !1[2](-1,0) !3[1](0,1) +++ [-1 -1 -1] true true"},
		{plain, "SEQ((B|A) a)", "0[1 0]{1,1} ++- [-1 -1 -1] false false"},

		// Negated items at the head, at the end, several in a row, between, and all at once.
		{plain, "SEQ(A a)", "0[0]{1,1} +-- [-1 -1 -1] false false"},
		{plain, "SEQ(!A n, A a)", "1[0]{1,1} !0[0](-1,0) +-- [-1 -1 -1] true false"},
		{plain, "SEQ(A a, !A n)", "0[0]{1,1} !1[0](0,1) +-- [-1 -1 -1] false true"},
		{plain, "SEQ(A a, B b, C c, !A l, !B m, !C n)", "0[0]{1,1} 1[1]{1,1} 2[2]{1,1} !3[0](2,3) !4[1](2,3) !5[2](2,3) +++ [-1 -1 -1] false true"},
		{plain, "SEQ(A a, !A l, !B m, B b, !C n, C c)", "0[0]{1,1} 3[1]{1,1} 5[2]{1,1} !1[0](0,1) !2[1](0,1) !4[2](1,2) +++ [-1 -1 -1] false false"},
		{plain, "SEQ(!A k, !B l, A a, !C m, B b, !A n, !(C|A) o)", "2[0]{1,1} 4[1]{1,1} !0[0](-1,0) !1[1](-1,0) !3[2](0,1) !5[0](1,2) !6[2 0](1,2) +++ [-1 -1 -1] true true"},
		{plain, "SEQ(A a, A b, A c, A d, A e, A f, A g, A h, A i, !A j)", "0[0]{1,1} 1[0]{1,1} 2[0]{1,1} 3[0]{1,1} 4[0]{1,1} 5[0]{1,1} 6[0]{1,1} 7[0]{1,1} 8[0]{1,1} !9[0](8,9) +-- [-1 -1 -1] false true"},

		// Numbers of events.
		{plain, "SEQ(A+ a, B b{2,3}, C c{1,1}, C d{4,4})", "0[0]{1,4} 1[1]{2,3} 2[2]{1,1} 3[2]{4,4} +++ [-1 -1 -1] false false"},

		// Types in the item's order; one that stands in a negated item alone; some that stand nowhere.
		{plain, "SEQ((C|A|B) a, !(B|C) n)", "0[2 0 1]{1,1} !1[1 2](0,1) +++ [-1 -1 -1] false true"},
		{plain, "SEQ(A a, !C n)", "0[0]{1,1} !1[2](0,1) +-+ [-1 -1 -1] false true"},
		{plain, "SEQ(A a, !C n) PARTITION BY k", "0[0]{1,1} !1[2](0,1) +-+ [1 -1 0] false true"},
		{plain, "SEQ(B a) PARTITION BY x", "0[1]{1,1} -+- [-1 0 -1] false false"},
		{plain, "SEQ((B|A) a{2,3}) PARTITION BY x", "0[1 0]{2,3} ++- [0 0 -1] false false"},

		// By, which stands at unlike places in the types.
		{unlike, "SEQ(A a, B b) PARTITION BY k", "0[0]{1,1} 1[1]{1,1} ++--- [0 2 -1 -1 -1] false false"},
		{unlike, "SEQ(B b, !(E|A) n) PARTITION BY k", "0[1]{1,1} !1[4 0](0,1) ++--+ [0 2 -1 -1 7] false true"},
		{unlike, "SEQ(C a, (B|A) b) PARTITION BY x", "0[2]{1,1} 1[1 0]{1,1} +++-- [1 0 0 -1 -1] false false"},
		{unlike, "SEQ(D d, A a)", "0[3]{1,1} 1[0]{1,1} +--+- [-1 -1 -1 -1 -1] false false"},
	} {
		s, q := schemaOf(c.schema), queryOf(c.query)
		p := planOf(s, q)
		if got := shape(p); got != c.want {
			t.Errorf("8.1: %s: %s, want %s", c.query, got, c.want)
		}
		if told(p.Schema) != told(s) || told(p.Query) != told(q) || len(p.Fixed)+len(p.Ret) > 0 {
			t.Errorf("8.1: %s: %+v", c.query, p)
		}
	}
}

// Promise 8.1: the whole query is there, and the results in their order.
func TestQueryAndResults(t *testing.T) {
	s := schemaOf(plain)
	q := queryOf("SEQ(A a, !B n, C+ c) USING STRICT AFTER ONCE WHERE a.x = 1 AND n.x = a.k WITHIN 77 PARTITION BY k RETURN 7, SUM(c.k) - a.x, a.ts, COUNT(c), a.x, 7, -a.x, a.x % a.k")
	p := planOf(s, q)
	if told(p.Query) != told(q) || told(p.Schema) != told(s) {
		t.Errorf("8.1: %+v", p)
	}
	if len(p.Ret) != api.MaxReturns {
		t.Fatalf("8.1: %d results", len(p.Ret))
	}
	env := api.Env{Lists: [][]api.Event{{ev(0, 9, 5, 3)}, nil, {ev(2, 10, 4), ev(2, 11, 6)}}, Each: -1}
	for i, want := range []int64{7, 5, 9, 2, 5, 7, -5, 2} {
		if told(p.Ret[i]) != told(code.Compile(s, q, q.Ret[i])) {
			t.Errorf("8.1: result %d: %+v", i, p.Ret[i])
		}
		if got, e := code.Run(p.Ret[i], env); e != api.OK || got != (api.Val{Known: true, N: want}) {
			t.Errorf("8.1: result %d: %v, %d, want %d", i, got, e, want)
		}
	}
	if q.Ret = nil; len(planOf(s, q).Ret) != 0 {
		t.Error("8.1: results of a query that has none")
	}
}

// flawed: what is wrong, and with which schema and query.
type flawed struct {
	s    api.Schema
	q    api.Query
	want api.Flaw
}

// flaws: one at least of each code that check tells, in each part.
func flaws() []flawed {
	good := queryOf("SEQ(A a, A+ r, !B n, A+ s, !B m)")
	var out []flawed
	schema := func(code api.Errno, types ...api.TypeDef) {
		out = append(out, flawed{api.Schema{Types: types}, good, api.Flaw{Code: code}})
	}
	schema(api.ErrSchemaTypes)
	schema(api.ErrSchemaTypes, make([]api.TypeDef, api.MaxTypes+1)...)
	schema(api.ErrSchemaName, api.TypeDef{Name: "A"}, api.TypeDef{Name: "1"})
	schema(api.ErrSchemaName, api.TypeDef{Name: "A", Attrs: []string{"ts"}})
	schema(api.ErrSchemaTwice, api.TypeDef{Name: "A"}, api.TypeDef{Name: "B"}, api.TypeDef{Name: "A"})
	schema(api.ErrSchemaAttrs, api.TypeDef{Name: "A", Attrs: []string{"a", "b", "c", "d", "e", "f", "g", "h", "i"}})
	changed := func(want api.Flaw, change func(q *api.Query)) {
		q := queryOf("SEQ(A a, A+ r, !B n, A+ s, !B m)")
		change(&q)
		out = append(out, flawed{schemaOf(plain), q, want})
	}
	shape := api.Flaw{Code: api.ErrShape}
	changed(shape, func(q *api.Query) { q.Items = nil })
	changed(shape, func(q *api.Query) { q.Items[0].Types = nil })
	changed(shape, func(q *api.Query) { q.Items[2].Hi = 2 })
	changed(shape, func(q *api.Query) { q.Mode = 3 })
	changed(shape, func(q *api.Query) { q.After = -1 })
	changed(shape, func(q *api.Query) { q.Within = -1 })
	changed(shape, func(q *api.Query) { q.By = "1" })
	changed(shape, func(q *api.Query) { q.Where = []api.Node{{Op: api.OpTrue}} })
	changed(shape, func(q *api.Query) { q.Ret = [][]api.Node{nil} })
	item := func(code api.Errno, index int, change func(q *api.Query)) {
		changed(api.Flaw{Code: code, Part: api.PartItem, Index: index}, change)
	}
	item(api.ErrItems, api.MaxItems, func(q *api.Query) { q.Items = slices.Repeat(q.Items, 3) })
	item(api.ErrNoType, 1, func(q *api.Query) { q.Items[1].Types = []string{"A", "Q"} })
	item(api.ErrTypeTwice, 2, func(q *api.Query) { q.Items[2].Types = []string{"A", "B", "A"} })
	item(api.ErrRep, 0, func(q *api.Query) { q.Items[0].Lo = 2 })
	item(api.ErrRep, 1, func(q *api.Query) { q.Items[1].Hi = 5 })
	item(api.ErrRep, 1, func(q *api.Query) { q.Items[1].Hi = math.MaxInt })
	item(api.ErrVarTwice, 2, func(q *api.Query) { q.Items[2].Var = "a" })
	item(api.ErrNoPositive, 0, func(q *api.Query) { q.Items = []api.Item{q.Items[2], q.Items[4]} })
	where := func(code api.Errno, index int, text string) {
		changed(api.Flaw{Code: code, Part: api.PartWhere, Index: index}, func(q *api.Query) { q.Where = treeOf(text) })
	}
	where(api.ErrNoVar, 1, "a.x = z.x")
	where(api.ErrNoAttr, 0, "a.z = 1")
	where(api.ErrUse, 0, "COUNT(n) = 1")
	where(api.ErrUse, 0, "PREV(a.x) = 1")
	where(api.ErrKind, 2, "a.x + TRUE = 1")
	where(api.ErrKind, 0, "a.x")
	where(api.ErrMix, 7, "TRUE AND a.x = 1 AND n.x = m.x")
	where(api.ErrMix, 2, "n.x = r.x")
	where(api.ErrMix, 2, "r.x = s.x")
	changed(api.Flaw{Code: api.ErrWithin, Part: api.PartWithin}, func(q *api.Query) { q.Within = api.MaxWindow + 1 })
	by := api.Flaw{Code: api.ErrPart, Part: api.PartBy}
	changed(by, func(q *api.Query) { q.By = "ts" })
	changed(by, func(q *api.Query) { q.By = "z" })
	changed(by, func(q *api.Query) { q.By, q.Items[4].Types = "x", []string{"C"} })
	result := func(code api.Errno, sub int, text string) {
		changed(api.Flaw{Code: code, Part: api.PartReturn, Index: 1, Sub: sub}, func(q *api.Query) { q.Ret = [][]api.Node{treeOf("1"), treeOf(text)} })
	}
	result(api.ErrNoVar, 1, "a.x + z.x")
	result(api.ErrNoAttr, 0, "a.z")
	result(api.ErrUse, 0, "r.x")
	result(api.ErrUse, 0, "PREV(r.x)")
	result(api.ErrUse, 0, "n.x")
	result(api.ErrUse, 0, "SUM(n.x)")
	result(api.ErrKind, 2, "1 + TRUE")
	result(api.ErrKind, 2, "a.x = 1")
	changed(api.Flaw{Code: api.ErrReturns, Part: api.PartReturn, Index: api.MaxReturns}, func(q *api.Query) {
		q.Ret = slices.Repeat([][]api.Node{treeOf("1")}, api.MaxReturns+1)
	})
	return out
}

// Promise 8.1: a query with a flaw has no plan.
func TestFlaws(t *testing.T) {
	for _, f := range flaws() {
		if got := check.Check(f.s, f.q); got != f.want {
			t.Fatalf("%+v: the flaw %+v is meant, check tells %+v", f.q, f.want, got)
		}
		p, got := plan.Build(f.s, f.q)
		if got != f.want {
			t.Errorf("8.1: %+v: %+v, want %+v", f.q, got, f.want)
		}
		if told(p) != told(api.Plan{}) {
			t.Errorf("8.1, P4: %+v has a flaw and the plan %+v", f.q, p)
		}
	}
	if _, f := plan.Build(schemaOf(plain), queryOf("SEQ(A a, A+ r, !B n, A+ s, !B m)")); f != (api.Flaw{}) {
		t.Errorf("8.1: without a flaw: %+v", f)
	}
}

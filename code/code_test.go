package code_test

import (
	"math"
	"slices"
	"testing"

	"sluice/api"
	"sluice/code"
	"sluice/event"
	"sluice/parse"
)

// plain, pair: the schema and the items of the chapter's examples.
const (
	plain = "type A(x, k) type B(k)"
	pair  = "SEQ(A a, B+ b)"
)

// none: the unknown value.
var none = api.Val{}

func is(n int64) api.Val { return api.Val{Known: true, N: n} }

func schemaOf(text string) api.Schema {
	s, code, _ := event.ParseSchema(text)
	if code != api.OK {
		panic("no schema: " + text)
	}
	return s
}

// queryOf: the query of a text without its beginning and its end.
func queryOf(text string) api.Query {
	q, _, code, _ := parse.Parse("PATTERN " + text + " WITHIN 9")
	if code != api.OK {
		panic("no query: " + text)
	}
	return q
}

func treeOf(text string) []api.Node {
	t, _, code, _ := parse.Expr(text)
	if code != api.OK {
		panic("no expression: " + text)
	}
	return t
}

// programOf: the program of a text over the chapter's schema and items.
func programOf(text string) api.Program {
	return code.Compile(schemaOf(plain), queryOf(pair), treeOf(text))
}

// made: an event of a type.
func made(typ int, ts int64, attrs ...int64) api.Event {
	e := api.Event{Ts: ts, Type: typ}
	copy(e.Attrs[:], attrs)
	return e
}

// told: the lists of the chapter's examples.
func told() [][]api.Event {
	return [][]api.Event{{made(0, 0, 3, 9)}, {made(1, 1, 4), made(1, 5, 9), made(1, 6, 2)}}
}

// same: are the programs alike, nil and empty lists being the same?
func same(p, o api.Program) bool {
	return slices.Equal(p.Code, o.Code) && slices.EqualFunc(p.Cols, o.Cols, slices.Equal[[]int])
}

// Instructions, each written as short as may be.
func push(n int64) api.Instr                  { return api.Instr{Code: api.CodePush, N: n} }
func load(item, col int) api.Instr            { return api.Instr{Code: api.CodeLoad, Item: item, Col: col} }
func count(item int) api.Instr                { return api.Instr{Code: api.CodeCount, Item: item} }
func ifNo(to int) api.Instr                   { return api.Instr{Code: api.CodeIfNo, To: to} }
func ifYes(to int) api.Instr                  { return api.Instr{Code: api.CodeIfYes, To: to} }
func plainly(c api.Code) api.Instr            { return api.Instr{Code: c} }
func of(c api.Code, item, col int) api.Instr  { return api.Instr{Code: c, Item: item, Col: col} }
func program(list ...api.Instr) api.Program   { return api.Program{Code: list} }
func with(p api.Program, c []int) api.Program { return api.Program{Code: p.Code, Cols: [][]int{c}} }

// expectTree holds Eval of a text against a value, and Run of its program against both.
func expectTree(t *testing.T, s api.Schema, q api.Query, text string, env api.Env, want api.Val) {
	t.Helper()
	tree := treeOf(text)
	if got := code.Eval(s, q, tree, env); got != want {
		t.Errorf("7.1: %s, Each %d, At %d: %v, want %v", text, env.Each, env.At, got, want)
	}
	p := code.Compile(s, q, tree)
	if len(p.Code) == 0 {
		if want != none {
			t.Errorf("7.2: %s has no instructions", text)
		}
		return
	}
	if got, e := code.Run(p, env); got != want || e != api.OK {
		t.Errorf("7.6: %s, Each %d, At %d: %v, %d, want %v", text, env.Each, env.At, got, e, want)
	}
	if got := code.Holds(p, env); got != (want.Known && want.N != 0) {
		t.Errorf("7.7: %s, Each %d, At %d: %v", text, env.Each, env.At, got)
	}
}

// The chapter's examples.
func TestProgramsAsWritten(t *testing.T) {
	x, k, ts := []int{0, api.ColNone}, []int{1, 0}, []int{api.ColTs, api.ColTs}
	for _, c := range []struct {
		text string
		want api.Program
	}{
		{"a.x + 1 = 2", api.Program{Code: []api.Instr{load(0, 0), push(1), plainly(api.CodeAdd), push(2), plainly(api.CodeEq)}, Cols: [][]int{x}}},
		{"a.x = 1 AND a.k = b.k OR TRUE", api.Program{Code: []api.Instr{
			load(0, 0), push(1), plainly(api.CodeEq), ifNo(8),
			load(0, 1), load(1, 1), plainly(api.CodeEq), plainly(api.CodeAnd),
			ifYes(11), push(1), plainly(api.CodeOr),
		}, Cols: [][]int{x, k}}},
		{"b.ts - PREV(b.ts) < COUNT(b)", api.Program{Code: []api.Instr{load(1, 0), of(api.CodePrev, 1, 0), plainly(api.CodeSub), count(1), plainly(api.CodeLt)}, Cols: [][]int{ts}}},
		{"a.x + TRUE", api.Program{}}, {"c.x = 1", api.Program{}}, {"NOT a.x", api.Program{}},
	} {
		if got := programOf(c.text); !same(got, c.want) {
			t.Errorf("7.2, 7.3: %s: %+v, want %+v", c.text, got, c.want)
		}
	}
	for _, text := range []string{"a.x + TRUE", "c.x = 1", "NOT a.x"} {
		expectTree(t, schemaOf(plain), queryOf(pair), text, api.Env{Lists: told()}, none)
	}
}

func TestValuesAsWritten(t *testing.T) {
	s, q := schemaOf(plain), queryOf(pair)
	for _, text := range []string{"SUM(b.k) = 15", "MIN(b.k) = 2", "LAST(b.k) = 2", "COUNT(b) = 3", "SUM(a.k) = 9"} {
		for _, each := range []int{math.MinInt, -2, -1, 0, 1, 2, math.MaxInt} {
			for _, at := range []int{math.MinInt, -1, 0, 1, 2, 3, math.MaxInt} {
				expectTree(t, s, q, text, api.Env{Lists: told(), Each: each, At: at}, is(1))
			}
		}
	}
	for _, c := range []struct {
		text     string
		each, at int
		want     api.Val
	}{
		{"b.k = a.k", 1, 1, is(1)}, {"b.k = a.k", 1, 0, is(0)}, {"b.k = a.k", 1, 3, none}, {"b.k = a.k", -1, 0, is(0)},
		{"PREV(b.k) = 4", 1, 1, is(1)}, {"PREV(b.k) = 4", 1, 0, none}, {"PREV(b.k) = 4", -1, 0, none},
		{"b.x = 0", 1, 1, none}, {"b.x = 0", -1, 0, none},
	} {
		expectTree(t, s, q, c.text, api.Env{Lists: told(), Each: c.each, At: c.at}, c.want)
	}
	if !code.Every(api.Cond{Prog: programOf("b.k > 3 OR PREV(b.k) = 9"), Each: 1, Prev: true}, told()) {
		t.Error("7.8: the example of Every")
	}
	for _, c := range []struct {
		p    api.Program
		want api.Val
		code api.Errno
	}{
		{program(push(1), push(2)), none, api.ErrCode}, {program(), none, api.ErrCode}, {program(plainly(api.CodeAdd)), none, api.ErrCode},
		{program(push(0), ifNo(9), plainly(api.CodeAdd)), none, api.ErrCode}, {program(push(0), ifNo(3), plainly(api.CodeAdd)), is(0), api.OK},
		{program(push(1), ifNo(1)), none, api.ErrCode}, {program(push(1), ifNo(2)), is(1), api.OK},
	} {
		if got, e := code.Run(c.p, api.Env{}); got != c.want || e != c.code {
			t.Errorf("7.5: %+v: %v, %d, want %v, %d", c.p.Code, got, e, c.want, c.code)
		}
	}
}

package show_test

import (
	"fmt"
	"reflect"
	"strings"
	"testing"

	"sluice/api"
	"sluice/parse"
	"sluice/show"
)

// term: an expression as a tree of its own, whose operands are its parts.
type term struct {
	op      api.Op
	n       int64
	v, attr string
	parts   []term
}

func num(n int64) term { return term{op: api.OpNum, n: n} }

func leaf(op api.Op, names ...string) term {
	x := term{op: op}
	if len(names) > 0 {
		x.v = names[0]
	}
	if len(names) > 1 {
		x.attr = names[1]
	}
	return x
}

func of(op api.Op, parts ...term) term { return term{op: op, parts: parts} }

// nodes: the term's nodes in post order.
func nodes(x term) []api.Node {
	out, _ := behind(nil, x)
	return out
}

// behind: the list with the term's nodes behind it, and the place of its root.
func behind(list []api.Node, x term) ([]api.Node, int) {
	n := api.Node{Op: x.op, N: x.n, Var: x.v, Attr: x.attr, A: -1, B: -1}
	if len(x.parts) > 0 {
		list, n.A = behind(list, x.parts[0])
	}
	if len(x.parts) > 1 {
		list, n.B = behind(list, x.parts[1])
	}
	return append(list, n), len(list)
}

// chain: n times the operator over the term.
func chain(op api.Op, n int, x term) term {
	for range n {
		x = of(op, x)
	}
	return x
}

var binary = []api.Op{
	api.OpAdd, api.OpSub, api.OpMul, api.OpDiv, api.OpMod, api.OpEq, api.OpNe, api.OpLt, api.OpLe, api.OpGt, api.OpGe, api.OpAnd, api.OpOr,
}

var unary = []api.Op{api.OpNeg, api.OpNot}

// spellings: how an operator, or what stands ahead of an aggregate's bracket, is written.
var spellings = map[api.Op]string{
	api.OpTrue: "TRUE", api.OpFalse: "FALSE", api.OpCount: "COUNT", api.OpSum: "SUM", api.OpMin: "MIN", api.OpMax: "MAX", api.OpFirst: "FIRST", api.OpLast: "LAST", api.OpPrev: "PREV",
	api.OpNeg: "-", api.OpNot: "NOT", api.OpAdd: "+", api.OpSub: "-", api.OpMul: "*", api.OpDiv: "/", api.OpMod: "%",
	api.OpEq: "=", api.OpNe: "!=", api.OpLt: "<", api.OpLe: "<=", api.OpGt: ">", api.OpGe: ">=", api.OpAnd: "AND", api.OpOr: "OR",
}

// plain: how a term without operands is written.
func plain(x term) string {
	switch x.op {
	case api.OpNum:
		return fmt.Sprint(x.n)
	case api.OpTrue, api.OpFalse:
		return spellings[x.op]
	case api.OpAttr:
		return x.v + " . " + x.attr
	case api.OpCount:
		return "COUNT ( " + x.v + " )"
	}
	return spellings[x.op] + " ( " + x.v + " . " + x.attr + " )"
}

// told: what a call says.
type told struct {
	text string
	code api.Errno
}

func exprOf(t []api.Node) told {
	text, code := show.Expr(t)
	return told{text, code}
}

func printOf(q api.Query) told {
	text, code := show.Print(q)
	return told{text, code}
}

func expectExpr(t *testing.T, list []api.Node, want told) {
	t.Helper()
	if got := exprOf(list); got != want {
		t.Errorf("5.3: Expr(%s) = %.300q, %d, want %.300q, %d", short(list), got.text, got.code, want.text, want.code)
	}
}

func expectPrint(t *testing.T, q api.Query, want told) {
	t.Helper()
	if got := printOf(q); got != want {
		t.Errorf("5.4: Print(%s) = %.300q, %d, want %.300q, %d", short(q), got.text, got.code, want.text, want.code)
	}
}

// short: a value as it is told in a failure.
func short(x any) string {
	text := fmt.Sprintf("%+v", x)
	if len(text) > 600 {
		return fmt.Sprintf("%s.. (%d bytes)", text[:600], len(text))
	}
	return text
}

// alike: two values as they are told, so that nil and empty lists are the same.
func alike(a, b any) bool {
	return reflect.DeepEqual(bare(reflect.ValueOf(a)), bare(reflect.ValueOf(b)))
}

// bare: a value as lists of lists, in which an empty list is never nil.
func bare(v reflect.Value) any {
	out := []any{}
	switch v.Kind() {
	case reflect.Slice:
		for i := range v.Len() {
			out = append(out, bare(v.Index(i)))
		}
		return out
	case reflect.Struct:
		for i := range v.NumField() {
			out = append(out, bare(v.Field(i)))
		}
		return out
	}
	return v.Interface()
}

// scatter: numbers from 0 up to below n, scattered, the same in every run.
func scatter() func(n int) int {
	state := uint64(88172645463325252)
	return func(n int) int {
		state ^= state << 13
		state ^= state >> 7
		state ^= state << 17
		return int(state % uint64(n))
	}
}

func TestExpressions(t *testing.T) {
	for _, c := range []struct{ text, want string }{
		{"a.x+1*2=3", "a . x + 1 * 2 = 3"},
		{"(a.x+1)*2", "( a . x + 1 ) * 2"}, {"a.x-(1-2)", "a . x - ( 1 - 2 )"}, {"(a.x-1)-2", "a . x - 1 - 2"},
		{"-(-5)", "- - 5"}, {"-(a.x*2)", "- ( a . x * 2 )"}, {"(-a.x)*2", "- a . x * 2"}, {"2*(-a.x)", "2 * - a . x"},
		{"not(a.x=1)and true", "NOT a . x = 1 AND TRUE"}, {"not(a.x=1 and true)", "NOT ( a . x = 1 AND TRUE )"},
		{"(not true)=false", "( NOT TRUE ) = FALSE"}, {"(1=2)=3", "( 1 = 2 ) = 3"}, {"1=(2=3)", "1 = ( 2 = 3 )"},
		{"true or(false or true)", "TRUE OR ( FALSE OR TRUE )"}, {"(true or false)or true", "TRUE OR FALSE OR TRUE"}, {"(true or false)and true", "( TRUE OR FALSE ) AND TRUE"},
		{"sum(b.qty)>=COUNT(b)", "SUM ( b . qty ) >= COUNT ( b )"},
		{"(((007)))", "7"}, {"a.ts", "a . ts"}, {"9223372036854775807", "9223372036854775807"}, {"-(9223372036854775807)", "- 9223372036854775807"},
		{"1 - - 2", "1 - - 2"}, {"1 - (-(2))", "1 - - 2"}, {"(1)-(2)", "1 - 2"}, {"-(1-2)", "- ( 1 - 2 )"}, {"(-1)-2", "- 1 - 2"}, {"not(-1)", "NOT - 1"}, {"-(not 1)", "- ( NOT 1 )"},
		{"min(a.x)+max(a.y)*first(a.z)", "MIN ( a . x ) + MAX ( a . y ) * FIRST ( a . z )"}, {"(last(a.x)-prev(a.y))/2%3", "( LAST ( a . x ) - PREV ( a . y ) ) / 2 % 3"},
	} {
		list, _, code, at := parse.Expr(c.text)
		if code != api.OK {
			t.Fatalf("parse.Expr(%q): %d at %d", c.text, code, at)
		}
		expectExpr(t, list, told{text: c.want})
	}
	list := []api.Node{
		{Op: api.OpNum, N: 2, A: -1, B: -1}, {Op: api.OpAttr, Var: "a", Attr: "x", A: -1, B: -1},
		{Op: api.OpNeg, A: 1, B: -1}, {Op: api.OpMul, A: 0, B: 2},
	}
	expectExpr(t, list, told{text: "2 * - a . x"})
}

func TestNodesWithoutOperands(t *testing.T) {
	for _, c := range []struct {
		x    term
		want string
	}{
		{num(0), "0"}, {num(7), "7"}, {num(1<<63 - 1), "9223372036854775807"}, {leaf(api.OpTrue), "TRUE"}, {leaf(api.OpFalse), "FALSE"},
		{leaf(api.OpAttr, "a", "ts"), "a . ts"}, {leaf(api.OpAttr, "Seqs", "_within"), "Seqs . _within"}, {leaf(api.OpAttr, "abcdefghijklmnop", "A_1"), "abcdefghijklmnop . A_1"},
		{leaf(api.OpCount, "b"), "COUNT ( b )"}, {leaf(api.OpSum, "b", "x"), "SUM ( b . x )"}, {leaf(api.OpMin, "b", "x"), "MIN ( b . x )"}, {leaf(api.OpMax, "b", "x"), "MAX ( b . x )"},
		{leaf(api.OpFirst, "b", "x"), "FIRST ( b . x )"}, {leaf(api.OpLast, "b", "x"), "LAST ( b . x )"}, {leaf(api.OpPrev, "b", "x"), "PREV ( b . x )"},
	} {
		expectExpr(t, nodes(c.x), told{text: c.want})
		expectExpr(t, nodes(of(api.OpNeg, c.x)), told{text: "- " + c.want})
		expectExpr(t, nodes(of(api.OpNot, c.x)), told{text: "NOT " + c.want})
		for _, op := range binary {
			expectExpr(t, nodes(of(op, c.x, num(1))), told{text: c.want + " " + spellings[op] + " 1"})
			expectExpr(t, nodes(of(op, num(1), c.x)), told{text: "1 " + spellings[op] + " " + c.want})
		}
	}
}

// item: a single one of the type A.
func item(v string) api.Item { return api.Item{Types: []string{"A"}, Var: v, Lo: 1, Hi: 1} }

// bounded: an item of the type A that comes lo to hi times.
func bounded(lo, hi int) api.Item { return api.Item{Types: []string{"A"}, Var: "a", Lo: lo, Hi: hi} }

func TestQueries(t *testing.T) {
	for _, c := range []struct{ text, want string }{
		{"pattern seq((A)a{1,1},A b{1,4},!(A|B)n) using any within 007", "PATTERN SEQ ( A a , A + b , ! ( A | B ) n ) WITHIN 7"},
		{"PATTERN SEQ(A a{0,1}, A+ b) USING next WHERE a.x=b.x WITHIN 5 PARTITION BY k RETURN a.x, count(b)", "PATTERN SEQ ( A a { 0 , 1 } , A + b ) USING NEXT WHERE a . x = b . x WITHIN 5 PARTITION BY k RETURN a . x , COUNT ( b )"},
		{"PATTERN SEQ(A a) AFTER all WITHIN 1", "PATTERN SEQ ( A a ) WITHIN 1"},
		{"PATTERN SEQ(A a) USING STRICT after next WHERE true WITHIN 1", "PATTERN SEQ ( A a ) USING STRICT AFTER NEXT WHERE TRUE WITHIN 1"},
		{"pattern seq(!(A)n) within 0 return (1),-(2),(not(3))", "PATTERN SEQ ( ! A n ) WITHIN 0 RETURN 1 , - 2 , NOT 3"},
	} {
		q, _, code, at := parse.Parse(c.text)
		if code != api.OK {
			t.Fatalf("parse.Parse(%q): %d at %d", c.text, code, at)
		}
		expectPrint(t, q, told{text: c.want})
	}
}

func TestItems(t *testing.T) {
	for _, c := range []struct {
		item api.Item
		want string
	}{
		{item("a"), "A a"}, {bounded(1, 1), "A a"}, {bounded(1, 4), "A + a"}, {bounded(0, 0), "A a { 0 , 0 }"}, {bounded(9, 2), "A a { 9 , 2 }"}, {bounded(1, 0), "A a { 1 , 0 }"}, {bounded(0, 1), "A a { 0 , 1 }"},
		{bounded(1, 2), "A a { 1 , 2 }"}, {bounded(1, 3), "A a { 1 , 3 }"}, {bounded(1, 5), "A a { 1 , 5 }"}, {bounded(2, 4), "A a { 2 , 4 }"}, {bounded(4, 4), "A a { 4 , 4 }"}, {bounded(4, 1), "A a { 4 , 1 }"}, {bounded(0, 4), "A a { 0 , 4 }"},
		{bounded(1<<63-1, 1<<63-1), "A a { 9223372036854775807 , 9223372036854775807 }"},
		{api.Item{Types: []string{"A", "B"}, Var: "a", Lo: 1, Hi: 1}, "( A | B ) a"}, {api.Item{Types: []string{"A", "B", "A"}, Var: "a", Lo: 1, Hi: 4}, "( A | B | A ) + a"}, {api.Item{Types: []string{"B", "A"}, Var: "a", Lo: 2, Hi: 3}, "( B | A ) a { 2 , 3 }"},
		{api.Item{Neg: true, Types: []string{"A"}, Var: "n", Lo: 1, Hi: 1}, "! A n"}, {api.Item{Neg: true, Types: []string{"A", "A"}, Var: "n", Lo: 1, Hi: 1}, "! ( A | A ) n"},
	} {
		expectPrint(t, api.Query{Items: []api.Item{c.item}, Within: 3}, told{text: "PATTERN SEQ ( " + c.want + " ) WITHIN 3"})
		expectPrint(t, api.Query{Items: []api.Item{item("a"), c.item, item("a")}, Within: 3}, told{text: "PATTERN SEQ ( A a , " + c.want + " , A a ) WITHIN 3"})
	}
	many := api.Query{Items: make([]api.Item, 0, 70)}
	for range 70 {
		many.Items = append(many.Items, item("a"))
	}
	expectPrint(t, many, told{text: "PATTERN SEQ ( A a" + strings.Repeat(" , A a", 69) + " ) WITHIN 0"})
}

func TestClauses(t *testing.T) {
	modes := map[api.Mode]string{api.ModeAny: "", api.ModeNext: "USING NEXT ", api.ModeStrict: "USING STRICT "}
	afters := map[api.After]string{api.AfterAll: "", api.AfterNext: "AFTER NEXT ", api.AfterPast: "AFTER PAST ", api.AfterOnce: "AFTER ONCE "}
	eq := nodes(of(api.OpEq, leaf(api.OpAttr, "a", "x"), num(1)))
	wheres := []struct {
		tree []api.Node
		want string
	}{{nil, ""}, {[]api.Node{}, ""}, {nodes(leaf(api.OpTrue)), "WHERE TRUE "}, {eq, "WHERE a . x = 1 "}}
	rets := []struct {
		trees [][]api.Node
		want  string
	}{
		{nil, ""}, {[][]api.Node{}, ""}, {[][]api.Node{nodes(num(5))}, " RETURN 5"}, {[][]api.Node{eq, eq}, " RETURN a . x = 1 , a . x = 1"},
		{[][]api.Node{nodes(num(1)), nodes(of(api.OpNeg, num(2))), nodes(num(3)), eq, eq, eq, eq, eq, eq}, " RETURN 1 , - 2 , 3" + strings.Repeat(" , a . x = 1", 6)},
	}
	withins := map[int64]string{0: "WITHIN 0", 12: "WITHIN 12", 1<<63 - 1: "WITHIN 9223372036854775807"}
	bys := map[string]string{"": "", "k": " PARTITION BY k", "ts": " PARTITION BY ts"}
	for mode, m := range modes {
		for after, a := range afters {
			for _, w := range wheres {
				for within, n := range withins {
					for by, b := range bys {
						for _, r := range rets {
							q := api.Query{Items: []api.Item{item("a")}, Mode: mode, After: after, Where: w.tree, Within: within, By: by, Ret: r.trees}
							expectPrint(t, q, told{text: "PATTERN SEQ ( A a ) " + m + a + w.want + n + b + r.want})
						}
					}
				}
			}
		}
	}
}

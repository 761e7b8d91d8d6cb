package parse_test

import (
	"fmt"
	"reflect"
	"strings"
	"testing"

	"sluice/api"
	"sluice/parse"
)

func num(n int64) api.Node { return api.Node{Op: api.OpNum, N: n, A: -1, B: -1} }

func leaf(op api.Op, names ...string) api.Node {
	n := api.Node{Op: op, A: -1, B: -1}
	if len(names) > 0 {
		n.Var = names[0]
	}
	if len(names) > 1 {
		n.Attr = names[1]
	}
	return n
}

func attr(v, x string) api.Node { return leaf(api.OpAttr, v, x) }

func one(op api.Op, a int) api.Node { return api.Node{Op: op, A: a, B: -1} }

func two(op api.Op, a, b int) api.Node { return api.Node{Op: op, A: a, B: b} }

// tree: what Expr says of a text.
type tree struct {
	nodes []api.Node
	spots []int
	code  api.Errno
	at    int
}

func exprOf(text string) tree {
	nodes, spots, code, at := parse.Expr(text)
	return tree{nodes, spots, code, at}
}

// told: what Parse says of a text.
type told struct {
	query api.Query
	spots api.Spots
	code  api.Errno
	at    int
}

func queryOf(text string) told {
	query, spots, code, at := parse.Parse(text)
	return told{query, spots, code, at}
}

// same: two answers as they are told, so that nil and empty lists are the same.
func same(a, b any) bool {
	return fmt.Sprintf("%#v", plain(reflect.ValueOf(a))) == fmt.Sprintf("%#v", plain(reflect.ValueOf(b)))
}

// plain: a value as lists of lists, in which an empty list is never nil.
func plain(v reflect.Value) any {
	switch v.Kind() {
	case reflect.Slice:
		out := []any{}
		for i := range v.Len() {
			out = append(out, plain(v.Index(i)))
		}
		return out
	case reflect.Struct:
		out := []any{}
		for i := range v.NumField() {
			out = append(out, plain(v.Field(i)))
		}
		return out
	case reflect.Int, reflect.Int64:
		return v.Int()
	case reflect.Bool:
		return v.Bool()
	}
	return v.String()
}

// short: a text as it is told in a failure.
func short(text string) string {
	if len(text) > 200 {
		return fmt.Sprintf("%q.. (%d bytes)", text[:200], len(text))
	}
	return fmt.Sprintf("%q", text)
}

func expectExpr(t *testing.T, text string, want tree) {
	t.Helper()
	if got := exprOf(text); !same(got, want) {
		t.Errorf("Expr(%s) = %.500s, want %.500s", short(text), fmt.Sprintf("%+v", got), fmt.Sprintf("%+v", want))
	}
}

func expectQuery(t *testing.T, text string, want told) {
	t.Helper()
	if got := queryOf(text); !same(got, want) {
		t.Errorf("Parse(%s) = %.500s, want %.500s", short(text), fmt.Sprintf("%+v", got), fmt.Sprintf("%+v", want))
	}
}

func exprRefused(t *testing.T, text string, code api.Errno, at int) {
	t.Helper()
	expectExpr(t, text, tree{code: code, at: at})
}

func queryRefused(t *testing.T, text string, code api.Errno, at int) {
	t.Helper()
	expectQuery(t, text, told{code: code, at: at})
}

// scatter: numbers from 0 up to below n, scattered, the same in every run.
func scatter() func(n int) int {
	state := uint64(88172645463325252)
	return func(n int) int {
		state ^= state << 13
		state ^= state >> 7
		state ^= state << 17
		return int(state % uint64(n))
	}
}

func TestExpressions(t *testing.T) {
	yes, no := leaf(api.OpTrue), leaf(api.OpFalse)
	for _, c := range []struct {
		text  string
		nodes []api.Node
		spots []int
	}{
		{"7", []api.Node{num(7)}, []int{0}},
		{"0", []api.Node{num(0)}, []int{0}},
		{"\n 9223372036854775807\t", []api.Node{num(1<<63 - 1)}, []int{2}},
		{"TRUE", []api.Node{yes}, []int{0}},
		{" false", []api.Node{no}, []int{1}},
		{"v.x", []api.Node{attr("v", "x")}, []int{0}},
		{" v\n. # of\nx", []api.Node{attr("v", "x")}, []int{1}},
		{"v.ts", []api.Node{attr("v", "ts")}, []int{0}},
		{"v.v", []api.Node{attr("v", "v")}, []int{0}},
		{"COUNT(v)", []api.Node{leaf(api.OpCount, "v")}, []int{0}},
		{"SUM(v.x)", []api.Node{leaf(api.OpSum, "v", "x")}, []int{0}},
		{" MIN(v.x)", []api.Node{leaf(api.OpMin, "v", "x")}, []int{1}},
		{"(MAX(v.x))", []api.Node{leaf(api.OpMax, "v", "x")}, []int{1}},
		{"FIRST ( v . x )", []api.Node{leaf(api.OpFirst, "v", "x")}, []int{0}},
		{"LAST(v.x)", []api.Node{leaf(api.OpLast, "v", "x")}, []int{0}},
		{"Prev(v.x)", []api.Node{leaf(api.OpPrev, "v", "x")}, []int{0}},
		{"1 + 2 * a.x", []api.Node{num(1), num(2), attr("a", "x"), two(api.OpMul, 1, 2), two(api.OpAdd, 0, 3)}, []int{0, 4, 8, 6, 2}},
		{"1 - 2 - 3", []api.Node{num(1), num(2), two(api.OpSub, 0, 1), num(3), two(api.OpSub, 2, 3)}, []int{0, 4, 2, 8, 6}},
		{"NOT a.x = 1", []api.Node{attr("a", "x"), num(1), two(api.OpEq, 0, 1), one(api.OpNot, 2)}, []int{4, 10, 8, 0}},
		{"-2 * 3", []api.Node{num(2), one(api.OpNeg, 0), num(3), two(api.OpMul, 1, 2)}, []int{1, 0, 5, 3}},
		{"- - 2", []api.Node{num(2), one(api.OpNeg, 0), one(api.OpNeg, 1)}, []int{4, 2, 0}},
		{"(1)", []api.Node{num(1)}, []int{1}},
		{"((1))", []api.Node{num(1)}, []int{2}},
		{"1 - -2", []api.Node{num(1), num(2), one(api.OpNeg, 1), two(api.OpSub, 0, 2)}, []int{0, 5, 4, 2}},
		{"1 + (NOT TRUE)", []api.Node{num(1), yes, one(api.OpNot, 1), two(api.OpAdd, 0, 2)}, []int{0, 9, 5, 2}},
		{"-(NOT FALSE)", []api.Node{no, one(api.OpNot, 0), one(api.OpNeg, 1)}, []int{6, 2, 0}},
		{"NOT -1", []api.Node{num(1), one(api.OpNeg, 0), one(api.OpNot, 1)}, []int{5, 4, 0}},
		{"(1 = 2) = (3 < 4)", []api.Node{num(1), num(2), two(api.OpEq, 0, 1), num(3), num(4), two(api.OpLt, 3, 4), two(api.OpEq, 2, 5)}, []int{1, 5, 3, 11, 15, 13, 8}},
		{"1 AND (2 AND 3)", []api.Node{num(1), num(2), num(3), two(api.OpAnd, 1, 2), two(api.OpAnd, 0, 3)}, []int{0, 7, 13, 9, 2}},
		{"1 AND 2 AND 3", []api.Node{num(1), num(2), two(api.OpAnd, 0, 1), num(3), two(api.OpAnd, 2, 3)}, []int{0, 6, 2, 12, 8}},
		{"1 OR 2 OR 3", []api.Node{num(1), num(2), two(api.OpOr, 0, 1), num(3), two(api.OpOr, 2, 3)}, []int{0, 5, 2, 10, 7}},
		{"NOT 1 AND 2", []api.Node{num(1), one(api.OpNot, 0), num(2), two(api.OpAnd, 1, 2)}, []int{4, 0, 10, 6}},
		{"NOT 1 OR NOT 2 = 3", []api.Node{num(1), one(api.OpNot, 0), num(2), num(3), two(api.OpEq, 2, 3), one(api.OpNot, 4), two(api.OpOr, 1, 5)}, []int{4, 0, 13, 17, 15, 9, 6}},
	} {
		expectExpr(t, c.text, tree{nodes: c.nodes, spots: c.spots})
		want := told{
			query: api.Query{Items: []api.Item{{Types: []string{"A"}, Var: "a", Lo: 1, Hi: 1}}, Where: c.nodes, Within: 1, Ret: [][]api.Node{c.nodes, c.nodes}},
			spots: api.Spots{Items: []int{12}, Where: shifted(c.spots, 23), Within: len(c.text) + 31},
		}
		text := "PATTERN SEQ(A a) WHERE " + c.text + " WITHIN 1 RETURN "
		want.spots.Ret = [][]int{shifted(c.spots, len(text)), shifted(c.spots, len(text)+len(c.text)+1)}
		expectQuery(t, text+c.text+","+c.text, want)
	}
}

// shifted: places that stand further behind.
func shifted(spots []int, by int) []int {
	out := []int{}
	for _, s := range spots {
		out = append(out, s+by)
	}
	return out
}

func TestEveryOperator(t *testing.T) {
	signs := []struct {
		sign string
		op   api.Op
	}{
		{"+", api.OpAdd}, {"-", api.OpSub}, {"*", api.OpMul}, {"/", api.OpDiv}, {"%", api.OpMod}, {"=", api.OpEq}, {"!=", api.OpNe},
		{"<", api.OpLt}, {"<=", api.OpLe}, {">", api.OpGt}, {">=", api.OpGe}, {"AND", api.OpAnd}, {"OR", api.OpOr},
	}
	for _, s := range signs {
		n := len(s.sign)
		expectExpr(t, "7 "+s.sign+" a.x", tree{nodes: []api.Node{num(7), attr("a", "x"), two(s.op, 0, 1)}, spots: []int{0, n + 3, 2}})
		expectExpr(t, "- 7 "+s.sign+" - a.x", tree{nodes: []api.Node{num(7), one(api.OpNeg, 0), attr("a", "x"), one(api.OpNeg, 2), two(s.op, 1, 3)}, spots: []int{2, 0, n + 7, n + 5, 4}})
		expectExpr(t, "(NOT 7) "+s.sign+" (NOT 8)", tree{nodes: []api.Node{num(7), one(api.OpNot, 0), num(8), one(api.OpNot, 2), two(s.op, 1, 3)}, spots: []int{5, 1, n + 14, n + 10, 8}})
		exprRefused(t, s.sign, api.ErrWord, begun(s.sign))
		exprRefused(t, "7 "+s.sign, api.ErrWord, n+2)
		exprRefused(t, "7 "+s.sign+" * 8", api.ErrWord, n+3)
	}
}

// begun: how many bytes of the sign may begin an expression: a minus may, and the text then ends too early.
func begun(sign string) int {
	if sign == "-" {
		return 1
	}
	return 0
}

func TestExpressionsThatDoNotDerive(t *testing.T) {
	for _, c := range []struct {
		text string
		at   int
	}{
		{"1 < 2 < 3", 6}, {"a.x = b.x = 1", 10}, {"(1 < 2 != 3)", 7}, {"NOT 1 = 2 >= 3", 10}, {"1 = 2 AND 3 = 4 = 5", 16},
		{"1 + NOT TRUE", 4}, {"- NOT TRUE", 2}, {"1 = NOT TRUE", 4}, {"2 * NOT 1", 4}, {"1 < NOT 2", 4}, {"-(1) - NOT 2", 7}, {"NOT - NOT 1", 6},
		{"1 )", 2}, {"()", 1}, {")", 0}, {"(1))", 3}, {"(1 2)", 3}, {"(1,2)", 2}, {"1 2", 2}, {"1 a.x", 2}, {"a.x b.x", 4}, {"1 (2)", 2}, {"1 TRUE", 2}, {"TRUE NOT 1", 5}, {"1 COUNT(a)", 2},
		{"a b", 2}, {"a (", 2}, {"a..x", 2}, {"a.x.y", 3}, {"a.1", 2}, {"1.a", 1}, {"a.(x)", 2}, {"(a).x", 2},
		{"a.sum", 2}, {"sum.a", 3}, {"a.Within", 2}, {"using", 0}, {"a.x AND by.x", 8}, {"count", 5}, {"COUNT a", 6}, {"COUNT()", 6}, {"COUNT(1)", 6}, {"COUNT(a.x)", 7}, {"COUNT((a))", 6}, {"COUNT(any)", 6}, {"COUNT(a", 7},
		{"SUM", 3}, {"SUM a.x", 4}, {"SUM()", 4}, {"SUM(a)", 5}, {"SUM(a.)", 6}, {"SUM(a.x.y)", 7}, {"SUM(a.x + 1)", 8}, {"SUM((a.x))", 4}, {"SUM(a.x", 7}, {"MIN(a.max)", 6}, {"PREV(1)", 5}, {"LAST(-a.x)", 5},
		{"+ 1", 0}, {"1 +", 3}, {"1 + + 2", 4}, {"1 * / 2", 4}, {"1 AND", 5}, {"AND 1", 0}, {"1 AND OR 2", 6}, {"NOT", 3}, {"NOT AND", 4}, {"-", 1}, {"- +", 2}, {"1 ! 2", 2}, {"1 | 2", 2}, {"{1}", 0}, {"1, 2", 1},
		{"1 WITHIN 2", 2}, {"PATTERN", 0}, {"RETURN 1", 0}, {"WHERE TRUE", 0}, {"a.x, b.x", 3},
	} {
		exprRefused(t, c.text, api.ErrWord, c.at)
		exprRefused(t, c.text[:c.at]+" \n"+c.text[c.at:], api.ErrWord, c.at+2)
	}
}

func TestEndsTooEarly(t *testing.T) {
	for _, text := range []string{"", "1 +", "(", "(1", "NOT", "-", "a", "a.", "COUNT", "COUNT(", "COUNT(a", "PREV", "PREV(", "PREV(a", "PREV(a.", "PREV(a.x", "1 AND", "1 OR (2 AND NOT (3"} {
		for _, behind := range []string{"", " ", "\n\t \r", "#", " # 1", "# )\n", "\n# &\n#\n "} {
			exprRefused(t, text+behind, api.ErrWord, len(text+behind))
		}
	}
	whole := strings.Fields("PATTERN SEQ ( ! A n , ( B | C ) + b , D d { 2 , 3 } ) USING NEXT AFTER PAST WHERE ( NOT a . x < - 1 ) WITHIN 9 PARTITION BY k RETURN SUM ( b . x ) , 1")
	complete := map[string]bool{"WITHIN 9": true, "PARTITION BY k": true, "SUM ( b . x )": true, ") , 1": true}
	for i := range whole {
		text := strings.Join(whole[:i+1], " ")
		enough := false
		for end := range complete {
			enough = enough || strings.HasSuffix(text, end)
		}
		for _, behind := range []string{"", " ", "\r\n", " # WITHIN 1", "#\n \t"} {
			if got := queryOf(text + behind); enough && got.code != api.OK {
				t.Errorf("4.2: Parse(%s) = %d at %d", short(text+behind), got.code, got.at)
			}
			if !enough {
				queryRefused(t, text+behind, api.ErrWord, len(text+behind))
			}
		}
	}
	for _, text := range []string{"", " ", "\n", "# PATTERN SEQ(A a) WITHIN 1", " #\n\t"} {
		exprRefused(t, text, api.ErrWord, len(text))
		queryRefused(t, text, api.ErrWord, len(text))
	}
}

func TestLexIsAskedFirst(t *testing.T) {
	deep := strings.Repeat("(", 33)
	for _, c := range []struct {
		text string
		code api.Errno
		at   int
	}{
		{"1 + &", api.ErrByte, 4}, {") &", api.ErrByte, 2}, {deep + "&", api.ErrByte, 33}, {"1 2 3 \xff", api.ErrByte, 6}, {"é", api.ErrByte, 0},
		{"12ab", api.ErrNumber, 0}, {") 9223372036854775808", api.ErrNumber, 2}, {deep + " 1_", api.ErrNumber, 34}, {"PATTERN SEQ(A a) WITHIN 9223372036854775808", api.ErrNumber, 24},
		{"a1234567890123456", api.ErrName, 0}, {"WITHIN ) abcdefghijklmnopq &", api.ErrName, 9}, {deep + "abcdefghijklmnopq", api.ErrName, 33},
		{strings.Repeat("1 ", 401), api.ErrTokens, 800}, {strings.Repeat("(", 401), api.ErrTokens, 400}, {strings.Repeat("(", 400) + "&", api.ErrByte, 400},
		{"PATTERN SEQ(A a) WITHIN 1 RETURN 1" + strings.Repeat(",1", 196), api.ErrTokens, 424},
		{strings.Repeat(" ", 8193), api.ErrLong, 8192}, {") &" + strings.Repeat(" ", 8190), api.ErrLong, 8192}, {"PATTERN SEQ(A a) WITHIN 1" + strings.Repeat(" ", 8168), api.ErrLong, 8192},
		{"PATTERN SEQ(A a) WITHIN x &", api.ErrByte, 26}, {"PATTERN SEQ(A a) WITHIN 1 # &\n&", api.ErrByte, 30},
	} {
		exprRefused(t, c.text, c.code, c.at)
		queryRefused(t, c.text, c.code, c.at)
	}
	full := "PATTERN SEQ(A a) WITHIN 1 RETURN 1" + strings.Repeat(",1", 195)
	if got := queryOf(full + strings.Repeat(" ", 8192-len(full))); got.code != api.OK || len(got.query.Ret) != 196 {
		t.Errorf("4.1: %d results, %d at %d", len(got.query.Ret), got.code, got.at)
	}
}

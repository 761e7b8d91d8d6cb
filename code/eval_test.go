package code_test

import (
	"fmt"
	"math"
	"slices"
	"testing"

	"sluice/api"
	"sluice/code"
)

// text: the mention of a variable's attribute.
func (r reader) text(v, attr string) string {
	switch r.op {
	case api.OpAttr:
		return v + "." + attr
	case api.OpCount:
		return "COUNT(" + v + ")"
	}
	return r.word + "(" + v + "." + attr + ")"
}

// expectNothing: a tree that is not runnable.
func expectNothing(t *testing.T, why string, q api.Query, tree []api.Node) {
	t.Helper()
	if got := code.Eval(schemaOf(plain), q, tree, api.Env{Lists: told(), Each: 1}); got != none {
		t.Errorf("7.1: %s: %v", why, got)
	}
	if p := code.Compile(schemaOf(plain), q, tree); len(p.Code) != 0 || len(p.Cols) != 0 {
		t.Errorf("7.2: %s: %+v", why, p)
	}
}

// Promises 7.1 and 7.2: trees that are well shaped but for one thing.
func TestNotWellShaped(t *testing.T) {
	q := queryOf(pair)
	good := treeOf("a.x + COUNT(b) = 3 AND TRUE")
	expectNothing(t, "no nodes", q, nil)
	expectNothing(t, "no nodes", q, []api.Node{})
	for why, spoil := range map[string]func(t []api.Node) []api.Node{
		"two trees":             func(t []api.Node) []api.Node { return append(t, treeOf("TRUE")...) },
		"without its root":      func(t []api.Node) []api.Node { return t[:len(t)-1] },
		"without its beginning": func(t []api.Node) []api.Node { return t[1:] },
		"an unknown Op":         func(t []api.Node) []api.Node { t[0].Op = 27; return t },
		"a negative Op":         func(t []api.Node) []api.Node { t[0].Op = -1; return t },
		"the Op 0":              func(t []api.Node) []api.Node { t[0].Op = 0; return t },
		"no variable":           func(t []api.Node) []api.Node { t[0].Var = ""; return t },
		"no attribute":          func(t []api.Node) []api.Node { t[0].Attr = ""; return t },
		"a keyword":             func(t []api.Node) []api.Node { t[0].Attr = "Seq"; return t },
		"an attribute of COUNT": func(t []api.Node) []api.Node { t[1].Attr = "k"; return t },
		"a number below 0":      func(t []api.Node) []api.Node { t[3].N = -3; return t },
		"a number beside TRUE":  func(t []api.Node) []api.Node { t[5].N = 1; return t },
		"a number beside AND":   func(t []api.Node) []api.Node { t[6].N = 1; return t },
		"a variable beside +":   func(t []api.Node) []api.Node { t[2].Var = "a"; return t },
		"itself as an operand":  func(t []api.Node) []api.Node { t[4].B = 4; return t },
		"an operand behind it":  func(t []api.Node) []api.Node { t[4].B = 5; return t },
		"no right operand":      func(t []api.Node) []api.Node { t[4].B = -1; return t },
		"a negative operand":    func(t []api.Node) []api.Node { t[4].A = -2; return t },
		"an operand twice":      func(t []api.Node) []api.Node { t[4].A = 3; return t },
		"a part of an operand":  func(t []api.Node) []api.Node { t[6].A = 2; return t },
		"an operand far away":   func(t []api.Node) []api.Node { t[6].A = math.MaxInt; return t },
		"an operand of a leaf":  func(t []api.Node) []api.Node { t[0].A = 0; return t },
	} {
		expectNothing(t, why, q, spoil(slices.Clone(good)))
	}
	expectTree(t, schemaOf(plain), q, "a.x + COUNT(b) = 6 AND TRUE", api.Env{Lists: told()}, is(1))
}

// Promises 7.1 and 7.2: a variable that no item has, by each way to mention it.
func TestVariablesOfNoItem(t *testing.T) {
	s, q := schemaOf(plain), queryOf(pair)
	for _, r := range readers {
		for _, v := range []string{"c", "A", "B", "ts", "x", "aa"} {
			m := r.text(v, "k")
			for _, text := range []string{m, "-" + m, "1 + " + m, m + " + 1", "TRUE OR " + m + " = 1", "a.x + " + m, "b.k = 1 AND NOT (" + m + " < 2)"} {
				expectNothing(t, text, q, treeOf(text))
			}
		}
		if p := code.Compile(s, q, treeOf(r.text("a", "k")+" + 1")); len(p.Code) != 3 || p.Code[0] != of(r.code, 0, 0) {
			t.Errorf("7.2: %s: %+v", r.text("a", "k"), p)
		}
	}
	nobody := api.Query{}
	expectNothing(t, "a query without items", nobody, treeOf("a.x"))
	expectTree(t, s, nobody, "1 + 2 = 3", api.Env{}, is(1))
	nobody.Items = []api.Item{{Var: ""}}
	expectNothing(t, "an item without a variable", nobody, treeOf("COUNT(a)"))
	expectTree(t, s, nobody, "NOT FALSE", api.Env{}, is(1))
}

// Promises 7.1 and 7.2: the item of a variable is the first one that has it; which types it has, and whether it is negated, does not matter.
func TestFirstItem(t *testing.T) {
	q := queryOf("SEQ(!B n, A a, A a, B n, B+ b, A a)")
	lists := [][]api.Event{{made(1, 0, 10)}, {made(0, 0, 11, 21)}, {made(0, 0, 12, 22)}, {made(1, 0, 13)}, {made(1, 0, 14)}, {made(0, 0, 15, 25)}}
	for text, want := range map[string]int64{"n.k": 10, "a.x": 11, "a.k": 21, "SUM(a.x)": 11, "b.k": 14, "a.k - n.k": 11} {
		expectTree(t, schemaOf(plain), q, text, api.Env{Lists: lists, Each: -1}, is(want))
	}
	for i, text := range []string{"n.k", "a.k", "a.k", "n.k", "b.k", "a.k"} {
		first := item(q, q.Items[i].Var)
		want := is(lists[first][0].Attrs[1-lists[first][0].Type])
		if first == i {
			want = none
		}
		expectTree(t, schemaOf(plain), q, text, api.Env{Lists: lists, Each: i, At: 1}, want)
	}
}

// truths, numbers: operands of each kind.
var truths, numbers = []string{"TRUE", "FALSE", "(a.x = 3)", "(1 != 2)", "(1 < 2)", "(1 <= 2)", "(1 > 2)", "(1 >= 2)", "(NOT TRUE)", "(TRUE AND FALSE)", "(TRUE OR FALSE)"},
	[]string{"0", "7", "a.x", "COUNT(b)", "SUM(b.k)", "MIN(b.k)", "MAX(b.k)", "FIRST(b.k)", "LAST(b.k)", "PREV(b.k)", "(-1)", "(1 + 2)", "(1 - 2)", "(1 * 2)", "(1 / 2)", "(1 % 2)"}

// expectKinds: a tree that is runnable just if its kinds fit, whatever stands around it.
func expectKinds(t *testing.T, x term, fits bool) {
	t.Helper()
	q := queryOf(pair)
	around := []term{x}
	if x.truth() {
		around = append(around, join(api.OpOr, term{op: api.OpTrue}, x), join(api.OpNot, x))
	} else {
		around = append(around, join(api.OpAdd, x, term{op: api.OpNum}), join(api.OpEq, term{op: api.OpNum}, x))
	}
	for _, y := range around {
		if !fits {
			expectNothing(t, fmt.Sprintf("kinds of %+v", nodes(y)), q, nodes(y))
		} else if p := code.Compile(schemaOf(plain), q, nodes(y)); !same(p, y.program(schemaOf(plain), q)) {
			t.Errorf("7.2: %+v: %+v", nodes(y), p)
		}
	}
}

// termOf: a tree's term.
func termOf(t []api.Node, at int) term {
	n := t[at]
	x := term{op: n.Op, n: n.N, v: n.Var, attr: n.Attr}
	for _, operand := range []int{n.A, n.B} {
		if operand >= 0 {
			x.parts = append(x.parts, termOf(t, operand))
		}
	}
	return x
}

// Promises 7.1 and 7.2: each operator over each two operands.
func TestKinds(t *testing.T) {
	var all []term
	for _, text := range slices.Concat(truths, numbers) {
		tree := treeOf(text)
		all = append(all, termOf(tree, len(tree)-1))
	}
	for i, a := range all {
		truth := i < len(truths)
		expectKinds(t, a, true)
		expectKinds(t, join(api.OpNot, a), truth)
		expectKinds(t, join(api.OpNeg, a), !truth)
		for j, b := range all {
			for _, o := range operators {
				expectKinds(t, join(o.op, a, b), truth == o.truths && (j < len(truths)) == o.truths)
			}
		}
	}
}

// Promise 7.1: what is read of an event, by its type.
func TestReading(t *testing.T) {
	q := queryOf(pair)
	for _, c := range []struct {
		schema string
		typ    int
		attr   string
		want   api.Val
	}{
		{plain, 0, "x", is(10)}, {plain, 0, "k", is(11)}, {plain, 1, "k", is(10)}, {plain, 1, "x", none}, {plain, 0, "z", none}, {plain, 0, "X", none}, {plain, 0, "A", none},
		{plain, 0, "ts", is(5)}, {plain, 1, "ts", is(5)}, {"type D()", 0, "ts", is(5)}, {"type D()", 0, "x", none},
		{plain, 2, "x", none}, {plain, 2, "ts", none}, {plain, -1, "x", none}, {plain, -1, "ts", none}, {plain, -1, "k", none}, {plain, -2, "ts", none},
		{plain, math.MinInt, "ts", none}, {plain, math.MaxInt, "ts", none}, {plain, math.MinInt, "k", none}, {plain, math.MaxInt, "k", none},
		{"type A(a, b, c, d, e, f, g, h)", 0, "a", is(10)}, {"type A(a, b, c, d, e, f, g, h)", 0, "h", is(17)},
		{"type A(Ts, tS, TS)", 0, "TS", is(12)},
	} {
		e := made(c.typ, 5, 10, 11, 12, 13, 14, 15, 16, 17)
		env := api.Env{Lists: [][]api.Event{{e}, {e, e}}, Each: 1, At: 1}
		for _, r := range readers {
			want := c.want
			if r.op == api.OpCount {
				want = is(1)
			}
			if r.op != api.OpPrev {
				expectTree(t, schemaOf(c.schema), q, r.text("a", c.attr), env, want)
			} else {
				expectTree(t, schemaOf(c.schema), q, r.text("b", c.attr), env, want)
			}
		}
	}
}

// Promise 7.1 over what is no schema: the places are those that event.AttrOf tells.
func TestReadingOverNoSchema(t *testing.T) {
	q := queryOf(pair)
	e := made(0, 5, 10, 11, 12, 13, 14, 15, 16, 17)
	env := api.Env{Lists: [][]api.Event{{e}}, Each: -1}
	for _, c := range []struct {
		attrs []string
		attr  string
		want  api.Val
	}{
		{[]string{"x", "x"}, "x", is(10)}, {[]string{"ts", "x"}, "ts", is(5)}, {[]string{"ts", "x"}, "x", is(11)}, {[]string{"", "not a name", "x"}, "x", is(12)},
		{[]string{"1", "2", "3", "4", "5", "6", "7", "8", "x"}, "x", none}, {[]string{"1", "2", "3", "4", "5", "6", "7", "x", "x"}, "x", is(17)},
	} {
		expectTree(t, api.Schema{Types: []api.TypeDef{{Name: "A", Attrs: c.attrs}}}, q, "a."+c.attr, env, c.want)
		expectTree(t, api.Schema{Types: []api.TypeDef{{Attrs: c.attrs}, {Attrs: c.attrs}}}, q, "LAST(a."+c.attr+")", env, c.want)
	}
	expectTree(t, api.Schema{}, q, "a.ts", env, none)
	expectTree(t, api.Schema{}, q, "a.x", env, none)
	expectTree(t, api.Schema{}, q, "COUNT(a) = 1", env, is(1))
}

// Promise 7.1: which event v.attr and PREV read, by the item that is gone through and the place.
func TestWhichEvent(t *testing.T) {
	ends := []int{math.MinInt, math.MinInt + 1, -2, -1, 4, 5, math.MaxInt - 1, math.MaxInt}
	for _, c := range []struct {
		text      string
		each      int
		by        [4]api.Val // at the places 0 to 3
		elsewhere api.Val
	}{
		{"b.k", 1, [4]api.Val{is(4), is(9), is(2), none}, none}, {"PREV(b.k)", 1, [4]api.Val{none, is(4), is(9), is(2)}, none},
		{"a.x", 0, [4]api.Val{is(3), none, none, none}, none}, {"PREV(a.x)", 0, [4]api.Val{none, is(3), none, none}, none},
		{"b.k", 0, [4]api.Val{is(4), is(4), is(4), is(4)}, is(4)}, {"PREV(b.k)", 0, [4]api.Val{}, none},
		{"a.x", 1, [4]api.Val{is(3), is(3), is(3), is(3)}, is(3)}, {"PREV(a.x)", 1, [4]api.Val{}, none},
		{"b.k", -1, [4]api.Val{is(4), is(4), is(4), is(4)}, is(4)}, {"PREV(b.k)", -1, [4]api.Val{}, none},
		{"b.k", -2, [4]api.Val{is(4), is(4), is(4), is(4)}, is(4)}, {"PREV(b.k)", math.MinInt, [4]api.Val{}, none},
		{"b.k", 2, [4]api.Val{is(4), is(4), is(4), is(4)}, is(4)}, {"PREV(b.k)", 2, [4]api.Val{}, none},
		{"b.k", math.MaxInt, [4]api.Val{is(4), is(4), is(4), is(4)}, is(4)}, {"PREV(b.k)", math.MaxInt, [4]api.Val{}, none},
		{"b.k - PREV(b.k)", 1, [4]api.Val{none, is(5), is(-7), none}, none},
		{"b.ts - PREV(b.ts)", 1, [4]api.Val{none, is(4), is(1), none}, none},
	} {
		env := api.Env{Lists: told(), Each: c.each}
		for at, want := range c.by {
			env.At = at
			expectTree(t, schemaOf(plain), queryOf(pair), c.text, env, want)
		}
		for _, at := range ends {
			env.At = at
			want := c.elsewhere
			if at == 4 && c.text == "PREV(b.k)" && c.each == 1 {
				want = none
			}
			expectTree(t, schemaOf(plain), queryOf(pair), c.text, env, want)
		}
	}
}

// Promise 7.1: empty lists, and lists that the environment has not.
func TestEmptyLists(t *testing.T) {
	for _, lists := range [][][]api.Event{nil, {}, {nil}, {{}, nil}, {{}, {}, told()[1]}, {told()[0][:0], told()[1][:0]}} {
		for _, each := range []int{-1, 0, 1, 2} {
			for at := -1; at < 3; at++ {
				for _, r := range readers {
					want := none
					if r.op == api.OpCount || r.op == api.OpSum {
						want = is(0)
					}
					for _, v := range []string{"a", "b"} {
						expectTree(t, schemaOf(plain), queryOf(pair), r.text(v, "k"), api.Env{Lists: lists, Each: each, At: at}, want)
						expectTree(t, schemaOf(plain), queryOf(pair), r.text(v, "z"), api.Env{Lists: lists, Each: each, At: at}, want)
					}
				}
			}
		}
	}
	env := api.Env{Lists: told()[:1], Each: 1, At: 0}
	for text, want := range map[string]api.Val{"a.x": is(3), "b.k": none, "COUNT(b)": is(0), "COUNT(a)": is(1), "b.k = 1 OR a.x = 3": is(1)} {
		expectTree(t, schemaOf(plain), queryOf(pair), text, env, want)
	}
}

// Promise 7.1: aggregates are of the whole list, and unknown if the attribute is unknown anywhere in it.
func TestAggregates(t *testing.T) {
	b := func(k int64) api.Event { return made(1, k, k) }
	d := made(0, 7, 1, 2) // its x is no B's
	odd := made(9, 7, 1, 2)
	for _, c := range []struct {
		list []api.Event
		attr string
		want [5]api.Val // the sum, the least, the greatest, the first, the last
	}{
		{[]api.Event{b(4)}, "k", [5]api.Val{is(4), is(4), is(4), is(4), is(4)}},
		{[]api.Event{b(4), b(9), b(2)}, "k", [5]api.Val{is(15), is(2), is(9), is(4), is(2)}},
		{[]api.Event{b(-4), b(9), b(9), b(-8)}, "ts", [5]api.Val{is(6), is(-8), is(9), is(-4), is(-8)}},
		{[]api.Event{b(4), d, b(3)}, "k", [5]api.Val{is(9), is(2), is(4), is(4), is(3)}},
		{[]api.Event{d, b(4), b(3)}, "x", [5]api.Val{}}, {[]api.Event{b(4), d}, "x", [5]api.Val{}}, {[]api.Event{d, b(4), d}, "x", [5]api.Val{}}, {[]api.Event{d, d}, "x", [5]api.Val{is(2), is(1), is(1), is(1), is(1)}},
		{[]api.Event{odd, b(4), b(3)}, "k", [5]api.Val{}}, {[]api.Event{b(4), odd, b(3)}, "k", [5]api.Val{}}, {[]api.Event{b(4), b(3), odd}, "k", [5]api.Val{}},
		{[]api.Event{b(4), odd}, "ts", [5]api.Val{}}, {[]api.Event{odd}, "ts", [5]api.Val{}}, {[]api.Event{b(1), made(-1, 3)}, "ts", [5]api.Val{}},
		{[]api.Event{b(4), b(5)}, "z", [5]api.Val{}},
		{[]api.Event{b(math.MaxInt64), b(1)}, "k", [5]api.Val{none, is(1), is(math.MaxInt64), is(math.MaxInt64), is(1)}},
		{[]api.Event{b(math.MaxInt64), b(1), b(-1)}, "k", [5]api.Val{is(math.MaxInt64), is(-1), is(math.MaxInt64), is(math.MaxInt64), is(-1)}},
		{[]api.Event{b(math.MinInt64), b(-1)}, "k", [5]api.Val{none, is(math.MinInt64), is(-1), is(math.MinInt64), is(-1)}},
	} {
		for _, each := range []int{-1, 0, 1} {
			for _, at := range []int{-1, 0, 1, 9} {
				env := api.Env{Lists: [][]api.Event{nil, c.list}, Each: each, At: at}
				for i, r := range readers[3:] {
					expectTree(t, schemaOf(plain), queryOf(pair), r.text("b", c.attr), env, c.want[i])
				}
				expectTree(t, schemaOf(plain), queryOf(pair), "COUNT(b)", env, is(int64(len(c.list))))
			}
		}
	}
}

// Promise 7.1: operators, as num has them.
func TestOperators(t *testing.T) {
	for text, want := range map[string]api.Val{
		"0": is(0), "9223372036854775807": is(math.MaxInt64), "TRUE": is(1), "FALSE": is(0),
		"9223372036854775807 + 1": none, "- 9223372036854775807 - 1": is(math.MinInt64), "- (- 9223372036854775807 - 1)": none, "- 9223372036854775807 - 2": none,
		"7 / 2": is(3), "- 7 / 2": is(-3), "7 / 0": none, "7 % 0": none, "- 7 % 2": is(-1), "2 - 3 - 4": is(-5), "2 - (3 - 4)": is(3), "7 % 4 * 5": is(15), "4294967296 * 2147483648": none,
		"1 < 2": is(1), "2 < 1": is(0), "2 <= 2": is(1), "2 > 2": is(0), "2 >= 2": is(1), "2 = 3": is(0), "2 != 3": is(1), "1 / 0 = 1": none, "1 = 1 % 0": none,
		"NOT TRUE": is(0), "NOT FALSE": is(1), "NOT (1 / 0 = 1)": none,
		"TRUE AND TRUE": is(1), "TRUE AND FALSE": is(0), "FALSE AND TRUE": is(0), "FALSE AND FALSE": is(0), "FALSE AND 1 / 0 = 1": is(0), "1 / 0 = 1 AND FALSE": is(0), "TRUE AND 1 / 0 = 1": none, "1 / 0 = 1 AND TRUE": none, "1 / 0 = 1 AND 1 / 0 = 1": none,
		"TRUE OR TRUE": is(1), "TRUE OR FALSE": is(1), "FALSE OR TRUE": is(1), "FALSE OR FALSE": is(0), "FALSE OR 1 / 0 = 1": none, "1 / 0 = 1 OR FALSE": none, "TRUE OR 1 / 0 = 1": is(1), "1 / 0 = 1 OR TRUE": is(1), "1 / 0 = 1 OR 1 / 0 = 1": none,
		"a.x * a.k - SUM(b.k)": is(12), "a.x / (a.x - 3)": none, "b.k + a.x = 7 AND NOT (a.k = 8)": is(1), "a.x < b.k OR b.z = 1": is(1), "b.z = 1 OR a.x > b.k": none,
	} {
		expectTree(t, schemaOf(plain), queryOf(pair), text, api.Env{Lists: told(), Each: -1}, want)
	}
}

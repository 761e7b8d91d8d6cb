package show_test

import (
	"math"
	"slices"
	"strings"
	"testing"

	"sluice/api"
	"sluice/show"
)

var noNames = []string{"", "1x", "a b", "a-b", ".", " a", "a ", "a\n", "é", "a\xff", "\x00", "seq", "Within", "TRUE", "by", "after", "oNCE", "abcdefghijklmnopq", strings.Repeat("a", 1000)}

var names = []string{"a", "A", "_", "x_1", "ts", "type", "seqs", "_seq", "abcdefghijklmnop"}

// expectTree holds Tree against the truth, and Expr's ErrShape with it.
func expectTree(t *testing.T, list []api.Node, want bool) {
	t.Helper()
	if got := show.Tree(list); got != want {
		t.Errorf("5.1: Tree(%s) = %v", short(list), got)
	}
	if got := exprOf(list); (got.code != api.ErrShape) != want || got.code != api.OK && got.text != "" {
		t.Errorf("5.3: Expr(%s) = %.300q, %d", short(list), got.text, got.code)
	}
}

func TestShortLists(t *testing.T) {
	one, two := api.Node{Op: api.OpNum, N: 1, A: -1, B: -1}, api.Node{Op: api.OpNum, N: 2, A: -1, B: -1}
	op := func(o api.Op, a, b int) api.Node { return api.Node{Op: o, A: a, B: b} }
	for _, c := range []struct {
		list []api.Node
		want bool
	}{
		{nil, false}, {[]api.Node{}, false}, {[]api.Node{one}, true}, {[]api.Node{one, two}, false}, {[]api.Node{one, two, one}, false},
		{[]api.Node{op(api.OpNot, -1, -1)}, false}, {[]api.Node{op(api.OpNot, 0, -1)}, false}, {[]api.Node{op(api.OpNeg, -1, -1)}, false}, {[]api.Node{op(api.OpAdd, -1, -1)}, false}, {[]api.Node{op(api.OpAdd, 0, 0)}, false}, {[]api.Node{op(api.OpAdd, -2, -1)}, false},
		{[]api.Node{one, op(api.OpAdd, -1, 0)}, false}, {[]api.Node{one, op(api.OpAdd, 0, 0)}, false}, {[]api.Node{one, op(api.OpAdd, 0, -1)}, false}, {[]api.Node{one, op(api.OpNeg, 0, 0)}, false}, {[]api.Node{one, op(api.OpNeg, -1, 0)}, false},
		{[]api.Node{op(api.OpNeg, 1, -1), one}, false}, {[]api.Node{op(api.OpAdd, 1, 2), one, two}, false}, {[]api.Node{one, op(api.OpAdd, 0, 2), two}, false},
		{[]api.Node{one, two, op(api.OpAdd, 0, 1)}, true}, {[]api.Node{one, two, op(api.OpAdd, 1, 0)}, false}, {[]api.Node{one, two, op(api.OpAdd, 1, 1)}, false}, {[]api.Node{one, two, op(api.OpNeg, 1, -1)}, false}, {[]api.Node{one, two, op(api.OpNeg, 0, -1)}, false},
		{[]api.Node{one, two, one, op(api.OpAdd, 1, 2)}, false}, {[]api.Node{one, two, one, op(api.OpAdd, 0, 2)}, false}, {[]api.Node{one, two, one, op(api.OpAdd, 1, 2), op(api.OpAdd, 0, 3)}, true}, {[]api.Node{one, two, one, op(api.OpAdd, 0, 2), op(api.OpAdd, 0, 3)}, false},
		{[]api.Node{one, two, op(api.OpAdd, 0, 1), one, op(api.OpAdd, 2, 3)}, true}, {[]api.Node{one, two, op(api.OpAdd, 0, 1), one, op(api.OpAdd, 1, 3)}, false}, {[]api.Node{one, two, op(api.OpAdd, 0, 1), one, op(api.OpAdd, 0, 3)}, false},
		{[]api.Node{one, two, op(api.OpEq, 0, 1), op(api.OpAdd, 0, 2)}, false}, {[]api.Node{one, two, op(api.OpEq, 0, 1), one, op(api.OpAdd, 2, 3)}, true},
	} {
		expectTree(t, c.list, c.want)
	}
}

// terms: all of just n nodes, of a number, a minus and a sum.
func terms(n int) []term {
	if n <= 0 {
		return nil
	}
	if n == 1 {
		return []term{num(0)}
	}
	var out []term
	for _, x := range terms(n - 1) {
		out = append(out, of(api.OpNeg, x))
	}
	for k := 1; k < n-1; k++ {
		for _, x := range terms(k) {
			for _, y := range terms(n - 1 - k) {
				out = append(out, of(api.OpAdd, x, y))
			}
		}
	}
	return out
}

// widest: the most nodes of the lists that are tried one and all.
const widest = 5

// rowsOf: all lists of n nodes whose nodes at each place are those of choices.
func rowsOf(n int, choices func(at int) []api.Node, yield func([]api.Node)) {
	list := make([]api.Node, n)
	var fill func(int)
	fill = func(at int) {
		if at == n {
			yield(list)
			return
		}
		for _, x := range choices(at) {
			list[at] = x
			fill(at + 1)
		}
	}
	fill(0)
}

// pairs: a number, a minus and a sum with all operands from lo to hi, or, if not loose, B as it must be.
func pairs(at, lo, hi int, loose bool) []api.Node {
	out := []api.Node{{Op: api.OpNum, A: -1, B: -1}}
	for a := lo; a <= hi; a++ {
		if !loose {
			out = append(out, api.Node{Op: api.OpNeg, A: a, B: -1}, api.Node{Op: api.OpAdd, A: a, B: at - 1})
			continue
		}
		for b := lo; b <= hi; b++ {
			out = append(out, api.Node{Op: api.OpNum, A: a, B: b}, api.Node{Op: api.OpNeg, A: a, B: b}, api.Node{Op: api.OpAdd, A: a, B: b})
		}
	}
	return out
}

// TestAllListsOfFewNodes: of the lists just those are trees that are a term's nodes in post order.
func TestAllListsOfFewNodes(t *testing.T) {
	sound := map[[widest]api.Node]int{}
	key := func(list []api.Node) (k [widest]api.Node) {
		copy(k[:], list)
		return
	}
	for n := 1; n <= widest; n++ {
		for _, x := range terms(n) {
			sound[key(nodes(x))]++
		}
	}
	found := map[[widest]api.Node]int{}
	try := func(list []api.Node) {
		good := show.Tree(list)
		if good != (sound[key(list)] > 0) {
			t.Errorf("5.1: Tree(%s) = %v", short(list), good)
		}
		if good {
			found[key(list)]++
		}
	}
	for n := range 4 {
		rowsOf(n, func(at int) []api.Node { return pairs(at, -2, n, true) }, try)
	}
	for n := 4; n <= widest; n++ {
		rowsOf(n, func(at int) []api.Node { return pairs(at, -2, n, false) }, try)
	}
	if len(found) != len(sound) {
		t.Errorf("5.1: %d trees are found, want %d", len(found), len(sound))
	}
}

// samples: a node of each operator, behind what it stands over.
func samples() []term {
	out := []term{num(7), leaf(api.OpTrue), leaf(api.OpFalse), leaf(api.OpAttr, "a", "x"), leaf(api.OpCount, "a")}
	for op := api.OpSum; op <= api.OpPrev; op++ {
		out = append(out, leaf(op, "a", "x"))
	}
	for _, op := range unary {
		out = append(out, of(op, num(1)), of(op, of(api.OpAdd, num(1), num(2))))
	}
	for _, op := range binary {
		out = append(out, of(op, num(1), num(2)), of(op, of(api.OpNeg, num(1)), of(api.OpAdd, num(1), num(2))))
	}
	return out
}

// isNamed: has an operator a variable, has it an attribute?
func isNamed(op api.Op) (bool, bool) {
	attr := op == api.OpAttr || op >= api.OpSum && op <= api.OpPrev
	return attr || op == api.OpCount, attr
}

// TestOneCellWrong: in a list that is well shaped one cell of one node is changed.
func TestOneCellWrong(t *testing.T) {
	for _, sample := range samples() {
		for _, x := range []term{sample, of(api.OpNot, sample), of(api.OpAnd, num(3), sample), of(api.OpLt, sample, leaf(api.OpAttr, "b", "y"))} {
			list := nodes(x)
			expectTree(t, list, true)
			for at := range list {
				changeCells(t, list, at)
			}
		}
	}
}

func changeCells(t *testing.T, list []api.Node, at int) {
	try := func(want bool, change func(*api.Node)) {
		changed := slices.Clone(list)
		change(&changed[at])
		expectTree(t, changed, want)
	}
	right := list[at]
	hasVar, hasAttr := isNamed(right.Op)
	for _, n := range []int64{math.MinInt64, -1, 0, 1, math.MaxInt64} {
		try(n == right.N || right.Op == api.OpNum && n >= 0, func(x *api.Node) { x.N = n })
	}
	for _, s := range noNames {
		try(!hasVar && s == "", func(x *api.Node) { x.Var = s })
		try(!hasAttr && s == "", func(x *api.Node) { x.Attr = s })
	}
	for _, s := range names {
		try(hasVar, func(x *api.Node) { x.Var = s })
		try(hasAttr, func(x *api.Node) { x.Attr = s })
	}
	for _, p := range []int{math.MinInt, -2, -1, 0, 1, 2, 3, at - 1, at, at + 1, len(list) - 1, len(list), len(list) + 1, math.MaxInt} {
		try(p == right.A, func(x *api.Node) { x.A = p })
		try(p == right.B, func(x *api.Node) { x.B = p })
	}
	for _, op := range []api.Op{math.MinInt, -1, 0, 27, 28, math.MaxInt} {
		try(false, func(x *api.Node) { x.Op = op })
	}
	for op := api.OpNum; op <= api.OpOr; op++ {
		try(kindOf(op) == kindOf(right.Op) || right.Op == api.OpNum && right.N == 0 && kindOf(op) == 2 || kindOf(right.Op) == 2 && op == api.OpNum, func(x *api.Node) { x.Op = op })
	}
}

// kindOf: the row of the document's table, from 1 on; an attribute and an aggregate are shaped the same.
func kindOf(op api.Op) int {
	hasVar, hasAttr := isNamed(op)
	switch {
	case op == api.OpNum:
		return 1
	case op == api.OpTrue || op == api.OpFalse:
		return 2
	case hasAttr:
		return 3
	case hasVar:
		return 4
	case slices.Contains(unary, op):
		return 6
	}
	return 7
}

func TestListsOfVeryManyNodes(t *testing.T) {
	const many = 200000
	leaves, nots, left := make([]api.Node, many), []api.Node{{Op: api.OpTrue, A: -1, B: -1}}, []api.Node{{Op: api.OpTrue, A: -1, B: -1}}
	var right []api.Node
	for i := range many {
		leaves[i] = api.Node{Op: api.OpTrue, A: -1, B: -1}
		nots = append(nots, api.Node{Op: api.OpNot, A: i, B: -1})
		left = append(left, leaves[i], api.Node{Op: api.OpAnd, A: 2 * i, B: 2*i + 1})
		right = append(right, leaves[i])
	}
	for i := many - 2; i >= 0; i-- {
		right = append(right, api.Node{Op: api.OpAnd, A: i, B: len(right) - 1})
	}
	for i, c := range []struct {
		list []api.Node
		want bool
	}{
		{leaves, false}, {nots, true}, {left, true}, {right, true}, {nots[1:], false}, {left[:many], false}, {right[:len(right)-1], false}, {right[1:], false},
	} {
		code := api.ErrShape
		if c.want {
			code = api.ErrBig
		}
		if got := exprOf(c.list); show.Tree(c.list) != c.want || got != (told{code: code}) {
			t.Errorf("5.1, 5.3: row %d: %v, %.300q, %d", i, show.Tree(c.list), got.text, got.code)
		}
		q := api.Query{Items: []api.Item{item("a")}, Where: c.list}
		if got := printOf(q); show.Shaped(q) != c.want || got != (told{code: code}) {
			t.Errorf("5.2, 5.4: row %d: %v, %.300q, %d", i, show.Shaped(q), got.text, got.code)
		}
		q = api.Query{Items: []api.Item{item("a")}, Ret: [][]api.Node{nodes(num(1)), c.list}}
		if got := printOf(q); show.Shaped(q) != c.want || got != (told{code: code}) {
			t.Errorf("5.2, 5.4: row %d: %v, %.300q, %d", i, show.Shaped(q), got.text, got.code)
		}
	}
}

// full: a well shaped query with all parts, made anew.
func full() api.Query {
	return api.Query{
		Items: []api.Item{
			{Types: []string{"A", "A", "B"}, Var: "a", Lo: 9, Hi: 0}, {Neg: true, Types: []string{"B", "C"}, Var: "a", Lo: 1, Hi: 1}, {Types: []string{"A"}, Var: "c", Lo: 1, Hi: 1},
		},
		Mode: api.ModeStrict, After: api.AfterOnce, Where: nodes(of(api.OpAdd, num(1), leaf(api.OpAttr, "a", "x"))), Within: 3, By: "k",
		Ret: [][]api.Node{nodes(num(2)), nodes(of(api.OpNot, leaf(api.OpCount, "z")))},
	}
}

// expectShaped holds Shaped of a changed query against the truth, and Print's ErrShape with it.
func expectShaped(t *testing.T, want bool, change func(*api.Query)) {
	t.Helper()
	q := full()
	change(&q)
	if got := show.Shaped(q); got != want {
		t.Errorf("5.2: Shaped(%s) = %v", short(q), got)
	}
	if got := printOf(q); (got.code == api.OK) != want || !want && got != (told{code: api.ErrShape}) {
		t.Errorf("5.4: Print(%s) = %.300q, %d", short(q), got.text, got.code)
	}
}

func TestShapedQueries(t *testing.T) {
	expectShaped(t, true, func(q *api.Query) {})
	expectShaped(t, false, func(q *api.Query) { *q = api.Query{} })
	expectShaped(t, false, func(q *api.Query) { q.Items = nil })
	expectShaped(t, false, func(q *api.Query) { q.Items = []api.Item{} })
	for _, m := range []api.Mode{math.MinInt, -1, 0, 1, 2, 3, math.MaxInt} {
		expectShaped(t, m >= 0 && m <= 2, func(q *api.Query) { q.Mode = m })
	}
	for _, a := range []api.After{math.MinInt, -1, 0, 1, 2, 3, 4, math.MaxInt} {
		expectShaped(t, a >= 0 && a <= 3, func(q *api.Query) { q.After = a })
	}
	for _, w := range []int64{math.MinInt64, -1, 0, 1, api.MaxWindow, api.MaxWindow + 1, math.MaxInt64} {
		expectShaped(t, w >= 0, func(q *api.Query) { q.Within = w })
	}
	for _, s := range noNames {
		expectShaped(t, s == "", func(q *api.Query) { q.By = s })
	}
	for _, s := range names {
		expectShaped(t, true, func(q *api.Query) { q.By = s })
	}
	wrong := []api.Node{{Op: api.OpNum, N: -1, A: -1, B: -1}}
	expectShaped(t, true, func(q *api.Query) { q.Where = nil })
	expectShaped(t, true, func(q *api.Query) { q.Where = []api.Node{} })
	expectShaped(t, false, func(q *api.Query) { q.Where = wrong })
	expectShaped(t, false, func(q *api.Query) { q.Where = q.Where[:2] })
	expectShaped(t, false, func(q *api.Query) { q.Where[2].A = 1 })
	expectShaped(t, true, func(q *api.Query) { q.Ret = nil })
	expectShaped(t, true, func(q *api.Query) { q.Ret = [][]api.Node{} })
	expectShaped(t, false, func(q *api.Query) { q.Ret = [][]api.Node{nil} })
	for _, bad := range [][]api.Node{nil, {}, wrong, append(nodes(num(1)), nodes(num(2))...)} {
		expectShaped(t, false, func(q *api.Query) { q.Ret[0] = bad })
		expectShaped(t, false, func(q *api.Query) { q.Ret[1] = bad })
		expectShaped(t, false, func(q *api.Query) { q.Ret = append(q.Ret, bad) })
	}
	expectShaped(t, true, func(q *api.Query) { q.Ret = slices.Repeat(q.Ret, 6) })
}

func TestShapedItems(t *testing.T) {
	for at := range full().Items {
		expectShaped(t, false, func(q *api.Query) { q.Items[at].Types = nil })
		expectShaped(t, false, func(q *api.Query) { q.Items[at].Types = []string{} })
		for _, s := range noNames {
			expectShaped(t, false, func(q *api.Query) { q.Items[at].Var = s })
			for i := range full().Items[at].Types {
				expectShaped(t, false, func(q *api.Query) { q.Items[at].Types[i] = s })
			}
			expectShaped(t, false, func(q *api.Query) { q.Items[at].Types = append(q.Items[at].Types, s) })
		}
		for _, s := range names {
			expectShaped(t, true, func(q *api.Query) { q.Items[at].Var = s })
			expectShaped(t, true, func(q *api.Query) { q.Items[at].Types = []string{s} })
			expectShaped(t, true, func(q *api.Query) { q.Items[at].Types = append(q.Items[at].Types, s, s) })
		}
		numbers := []int{math.MinInt, -1, 0, 1, 2, 4, 9, math.MaxInt}
		for _, lo := range numbers {
			for _, hi := range numbers {
				expectShaped(t, lo >= 0 && hi >= 0, func(q *api.Query) { q.Items[at].Neg, q.Items[at].Lo, q.Items[at].Hi = false, lo, hi })
				expectShaped(t, lo == 1 && hi == 1, func(q *api.Query) { q.Items[at].Neg, q.Items[at].Lo, q.Items[at].Hi = true, lo, hi })
			}
		}
	}
	expectShaped(t, true, func(q *api.Query) { q.Items = q.Items[1:2] })
}

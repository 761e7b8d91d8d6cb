package show_test

import (
	"fmt"
	"slices"
	"strings"
	"testing"

	"sluice/api"
	"sluice/parse"
)

// pad: a term of just n tokens, one deep at most.
func pad(n int) term {
	x := num(0)
	if n%2 == 0 {
		x, n = of(api.OpNeg, x), n-1
	}
	for ; n > 1; n -= 2 {
		x = of(api.OpAdd, x, num(1))
	}
	return x
}

// onRight, onLeft, inComps: the term in n brackets. What they are given must be a sum that nothing is added to, or a comparison.
func onRight(n int, x term) term {
	for range n {
		x = of(api.OpSub, num(1), x)
	}
	return x
}

func onLeft(n int, x term) term {
	for range n {
		x = of(api.OpAdd, of(api.OpMul, x, num(1)), num(1))
	}
	return x
}

func inComps(n int, x term) term {
	for range n {
		x = of(api.OpLt, x, num(1))
	}
	return x
}

func sum() term { return of(api.OpSub, num(1), num(2)) }

func comp() term { return of(api.OpEq, num(1), num(2)) }

// inQuery: the tree behind WHERE, and as each of two results.
func inQuery(list []api.Node) []api.Query {
	one := nodes(num(1))
	items := []api.Item{{Types: []string{"A", "B"}, Var: "a", Lo: 1, Hi: 1}}
	return []api.Query{
		{Items: items, Where: list}, {Items: items, Ret: [][]api.Node{list, one}}, {Items: items, Ret: [][]api.Node{one, list}}, {Items: items, Where: one, Ret: [][]api.Node{list}},
	}
}

// expectDeep: is the tree too deep, by itself and in a query?
func expectDeep(t *testing.T, what string, x term, want bool) {
	t.Helper()
	code := api.OK
	if want {
		code = api.ErrDeep
	}
	got := exprOf(nodes(x))
	if got.code != code || (got.text == "") != want {
		t.Errorf("5.3: %s: Expr answers %.300q, %d", what, got.text, got.code)
	}
	for _, q := range inQuery(nodes(x)) {
		if p := printOf(q); p.code != code || (p.text == "") != want || !strings.Contains(p.text, got.text) {
			t.Errorf("5.4: %s: Print answers %.300q, %d", what, p.text, p.code)
		}
	}
	if _, _, read, _ := parse.Expr(wordsOf(x, 0, never)); read != code {
		t.Errorf("%s: layer 4 counts otherwise: %d", what, read)
	}
}

func TestHowDeep(t *testing.T) {
	total := leaf(api.OpSum, "a", "x")
	for _, n := range []int{0, 1, 2, 3, 16, 31, 32, 33, 34, 40} {
		want := n > api.MaxNest
		expectDeep(t, fmt.Sprint(n, " NOTs"), chain(api.OpNot, n, total), want)
		expectDeep(t, fmt.Sprint(n, " signs"), chain(api.OpNeg, n, total), want)
		expectDeep(t, fmt.Sprint(n, " brackets on the right"), onRight(n, sum()), want)
		expectDeep(t, fmt.Sprint(n, " brackets on the left"), onLeft(n, sum()), want)
		expectDeep(t, fmt.Sprint(n, " brackets of comparisons"), inComps(n, comp()), want)
		for k := 1; k < n-1; k++ {
			m := n - 1 - k
			expectDeep(t, fmt.Sprint(k, " signs, a bracket, ", m, " NOTs"), chain(api.OpNeg, k, chain(api.OpNot, m, total)), want)
			expectDeep(t, fmt.Sprint(k, " NOTs, a bracket, ", m, " NOTs"), chain(api.OpNot, k, of(api.OpAnd, num(1), chain(api.OpNot, m, num(1)))), want)
			expectDeep(t, fmt.Sprint(k, " NOTs, ", m+1, " signs"), chain(api.OpNot, k, chain(api.OpNeg, m+1, num(1))), want)
			expectDeep(t, fmt.Sprint(k, " brackets, ", m+1, " signs"), onRight(k, of(api.OpSub, num(1), chain(api.OpNeg, m+1, num(1)))), want)
			expectDeep(t, fmt.Sprint(k, " signs, ", m+1, " brackets"), chain(api.OpNeg, k, onLeft(m, sum())), want)
			expectDeep(t, fmt.Sprint(k, " brackets on the left, ", m+1, " on the right"), onLeft(k, onRight(m+1, sum())), want)
		}
	}
	thirds := num(1)
	for n := 3; n < 45; n += 3 {
		thirds = of(api.OpNeg, of(api.OpNot, thirds))
		expectDeep(t, fmt.Sprint(n/3, " times a sign, a bracket, a NOT"), thirds, n > api.MaxNest)
	}
}

// TestEndsWithItsOperand: what stands side by side does not add up.
func TestEndsWithItsOperand(t *testing.T) {
	nots, signs, right, left := chain(api.OpNot, 32, num(1)), chain(api.OpNeg, 32, num(1)), onRight(32, sum()), onLeft(32, sum())
	one := num(1)
	for i, c := range []struct {
		x    term
		want bool
	}{
		{of(api.OpAnd, nots, nots), false}, {of(api.OpOr, nots, of(api.OpAnd, nots, nots)), false}, {of(api.OpMul, signs, signs), false}, {of(api.OpSub, of(api.OpMul, signs, signs), signs), false},
		{of(api.OpEq, right, left), false}, {of(api.OpEq, left, right), false}, {of(api.OpAnd, of(api.OpNot, one), of(api.OpEq, right, one)), false}, {of(api.OpEq, of(api.OpNeg, one), left), false},
		{of(api.OpSub, of(api.OpNeg, one), onRight(31, sum())), false}, {of(api.OpSub, of(api.OpNeg, one), right), true}, {of(api.OpAdd, right, of(api.OpNeg, signs)), true},
		{of(api.OpNot, of(api.OpEq, one, onRight(31, sum()))), false}, {of(api.OpNot, of(api.OpEq, one, right)), true}, {of(api.OpNot, of(api.OpEq, right, one)), true}, {of(api.OpNeg, onLeft(31, sum())), true}, {of(api.OpNeg, onLeft(30, sum())), false},
		{of(api.OpAnd, nots, of(api.OpNot, nots)), true}, {of(api.OpAnd, of(api.OpNot, nots), nots), true}, {of(api.OpOr, one, of(api.OpOr, nots, one)), true}, {of(api.OpEq, one, nots), true}, {of(api.OpMul, signs, of(api.OpNeg, signs)), true},
	} {
		expectDeep(t, fmt.Sprint("row ", i), c.x, c.want)
	}
	for _, x := range []term{nots, signs, right} {
		q := inQuery(nodes(x))[0]
		q.Ret = [][]api.Node{nodes(x), nodes(chain(api.OpNot, 32, num(1)))}
		if got := printOf(q); got.code != api.OK {
			t.Errorf("5.4: what is open in one expression counts in another: %d", got.code)
		}
	}
}

func TestTokensOfTrees(t *testing.T) {
	some := append(samples(), onRight(30, sum()), onLeft(30, sum()), inComps(30, comp()), chain(api.OpNot, 32, num(1)), of(api.OpNeg, of(api.OpNot, num(1))))
	for _, x := range some {
		c := tokens(exprOf(nodes(x)).text)
		whole := of(api.OpOr, x, pad(api.MaxTokens-c-1))
		got := exprOf(nodes(whole))
		if got != (told{text: wordsOf(whole, 0, never)}) || tokens(got.text) != 400 {
			t.Errorf("5.3: 400 tokens with %q: %d tokens, %d", exprOf(nodes(x)).text, tokens(got.text), got.code)
		}
		back, _, code, _ := parse.Expr(got.text)
		if code != api.OK || !slices.Equal(back, nodes(whole)) {
			t.Errorf("5.5: 400 tokens with %q are read otherwise", exprOf(nodes(x)).text)
		}
		for more := range 5 {
			expectExpr(t, nodes(of(api.OpOr, x, pad(api.MaxTokens-c+more))), told{code: api.ErrBig})
		}
	}
	for n := 1; n < 410; n++ {
		got := exprOf(nodes(pad(n)))
		if n <= 400 && (got.code != api.OK || tokens(got.text) != n) || n > 400 && got != (told{code: api.ErrBig}) {
			t.Errorf("5.3: %d tokens: %.300q, %d", n, got.text, got.code)
		}
	}
	names := of(api.OpAttr)
	names.v, names.attr = strings.Repeat("v", 16), strings.Repeat("a", 16)
	x := names
	for range 99 {
		x = of(api.OpMul, x, names)
	}
	if got := exprOf(nodes(x)); got.code != api.OK || tokens(got.text) != 399 {
		t.Errorf("5.3: 100 attributes with names of 16 bytes: %d", got.code)
	}
}

func TestTokensOfQueries(t *testing.T) {
	pick := scatter()
	for range 100 {
		a := grownQuery(6, pick)
		a.where = nil
		c := tokens(a.words(never))
		a.where = []term{pad(api.MaxTokens - c - 1)}
		expectSize(t, a, api.MaxTokens)
		a.where = []term{pad(api.MaxTokens - c)}
		expectSize(t, a, api.MaxTokens+1)
		a.where, a.ret = nil, nil
		c = tokens(a.words(never))
		a.ret = []term{num(1), pad(api.MaxTokens - c - 3)}
		expectSize(t, a, api.MaxTokens)
		a.ret = []term{num(1), pad(api.MaxTokens - c - 2)}
		expectSize(t, a, api.MaxTokens+1)
	}
}

func expectSize(t *testing.T, a asked, size int) {
	t.Helper()
	want := told{text: a.words(never)}
	if n := tokens(want.text); n != size {
		t.Fatalf("%d tokens, want %d", n, size)
	}
	if size > api.MaxTokens {
		want = told{code: api.ErrBig}
	}
	expectPrint(t, a.query(), want)
	if size <= api.MaxTokens {
		if back, _, code, _ := parse.Parse(want.text); code != api.OK || !alike(back, a.query()) {
			t.Errorf("5.5: a query of %d tokens is read otherwise: %d", size, code)
		}
	}
}

func TestQueriesOfVeryManyParts(t *testing.T) {
	const many = 100000
	one := nodes(num(1))
	for _, n := range []int{401, many} {
		for i, q := range []api.Query{
			{Items: slices.Repeat([]api.Item{item("a")}, n)},
			{Items: []api.Item{{Types: slices.Repeat([]string{"A"}, n), Var: "a", Lo: 1, Hi: 1}}},
			{Items: []api.Item{item("a")}, Ret: slices.Repeat([][]api.Node{one}, n)},
			{Items: []api.Item{item("a")}, Where: nodes(chain(api.OpNot, n, num(1)))},
			{Items: slices.Repeat([]api.Item{item("a")}, 100), Ret: slices.Repeat([][]api.Node{one}, 100), Where: nodes(chain(api.OpNot, n, num(1)))},
		} {
			if got := printOf(q); got != (told{code: api.ErrBig}) {
				t.Errorf("5.4: row %d with %d parts: %.300q, %d", i, n, got.text, got.code)
			}
			q.Within = -1
			if got := printOf(q); got != (told{code: api.ErrShape}) {
				t.Errorf("5.4: row %d with %d parts, and a window of -1: %.300q, %d", i, n, got.text, got.code)
			}
		}
	}
}

func TestFirstError(t *testing.T) {
	deep := chain(api.OpNot, 33, num(1))
	sums := leaf(api.OpSum, "a", "x")
	for range 59 {
		sums = of(api.OpAnd, sums, leaf(api.OpSum, "a", "x"))
	}
	for i, c := range []struct {
		x    term
		want api.Errno
	}{
		{deep, api.ErrDeep}, {pad(401), api.ErrBig}, {of(api.OpAnd, pad(401), deep), api.ErrBig}, {of(api.OpAnd, deep, pad(401)), api.ErrBig}, {of(api.OpAnd, deep, pad(365)), api.ErrDeep}, {of(api.OpAnd, deep, pad(366)), api.ErrBig},
		{chain(api.OpNot, 399, num(1)), api.ErrDeep}, {chain(api.OpNot, 400, num(1)), api.ErrBig}, {chain(api.OpNeg, 399, num(1)), api.ErrDeep}, {chain(api.OpNeg, 400, num(1)), api.ErrBig},
		{onRight(99, sum()), api.ErrDeep}, {onRight(100, sum()), api.ErrBig}, {of(api.OpOr, sums, deep), api.ErrBig}, {chain(api.OpNot, 33, sums), api.ErrBig},
	} {
		expectExpr(t, nodes(c.x), told{code: c.want})
		list := nodes(c.x)
		list[0].N = -1
		if c.x.op == api.OpAnd || c.x.op == api.OpNot {
			expectExpr(t, list, told{code: api.ErrShape})
		}
		expectExpr(t, append(nodes(c.x), nodes(num(1))...), told{code: api.ErrShape})
		for _, q := range inQuery(nodes(c.x)) {
			want := c.want
			if i == 4 || i == 6 || i == 8 || i == 10 { // the query's own tokens are too many
				want = api.ErrBig
			}
			expectPrint(t, q, told{code: want})
			q.By = "by"
			expectPrint(t, q, told{code: api.ErrShape})
		}
	}
	long := api.Query{Items: slices.Repeat([]api.Item{item("a")}, 130), Where: nodes(deep)}
	expectPrint(t, long, told{code: api.ErrBig})
	long.Items = long.Items[:100]
	expectPrint(t, long, told{code: api.ErrDeep})
	long.Items[99].Lo = -1
	expectPrint(t, long, told{code: api.ErrShape})
}

// TestTermsAboutTheLimits: terms of up to some hundred operators, some slim and deep, held against the second printing and layer 4's count.
func TestTermsAboutTheLimits(t *testing.T) {
	pick := scatter()
	seen := map[api.Errno]int{}
	for range 2000 {
		x := grown(pick(120), 1+pick(30), pick)
		want := told{text: wordsOf(x, 0, never)}
		if tokens(want.text) > api.MaxTokens {
			want = told{code: api.ErrBig}
		} else if _, _, code, _ := parse.Expr(want.text); code != api.OK {
			want = told{code: code}
		}
		seen[want.code]++
		expectExpr(t, nodes(x), want)
	}
	if seen[api.OK] < 300 || seen[api.ErrBig] < 300 || seen[api.ErrDeep] < 300 {
		t.Errorf("too few of a kind: %v", seen)
	}
}

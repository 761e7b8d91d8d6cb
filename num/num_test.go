package num_test

import (
	"math"
	"math/big"
	"slices"
	"sync"
	"testing"

	"sluice/api"
	"sluice/num"
)

const (
	least int64 = -1 << 63
	most  int64 = 1<<63 - 1
)

var (
	unknown = api.Val{}
	odd     = api.Val{Known: false, N: 7}
	no      = is(0)
	yes     = is(1)
)

func is(n int64) api.Val { return api.Val{Known: true, N: n} }

// unknowns: every shape in which an unknown value may be handed in.
var unknowns = []api.Val{unknown, odd, {N: -1}, {N: 1}, {N: least}, {N: most}}

// edges: the ends of int64 and the numbers around which sums, products and quotients leave it.
var edges = []int64{
	least, least + 1, least + 2, least / 2, least/2 - 1, least/2 + 1,
	-4294967297, -4294967296, -4294967295, -3037000500, -3037000499, -2147483648, -7, -3, -2, -1,
	0, 1, 2, 3, 7, 2147483647, 2147483648, 3037000499, 3037000500, 4294967295, 4294967296, 4294967297,
	most / 2, most/2 + 1, most/2 + 2, most - 2, most - 1, most,
}

// scattered: numbers of every length, from a fixed rule, so that a run can be repeated.
func scattered(count int) []int64 {
	out := make([]int64, count)
	x := uint64(88172645463325252)
	for i := range out {
		x ^= x << 13
		x ^= x >> 7
		x ^= x << 17
		out[i] = int64(x) >> (i % 64)
	}
	return out
}

// fitted: the true result as the document wants it answered.
func fitted(n *big.Int) api.Val {
	if !n.IsInt64() {
		return unknown
	}
	return is(n.Int64())
}

type binary struct {
	name string
	op   api.Op
	call func(a, b api.Val) api.Val
	want func(a, b *big.Int) api.Val
}

var numbers = []binary{
	{"Add", api.OpAdd, num.Add, func(a, b *big.Int) api.Val { return fitted(new(big.Int).Add(a, b)) }},
	{"Sub", api.OpSub, num.Sub, func(a, b *big.Int) api.Val { return fitted(new(big.Int).Sub(a, b)) }},
	{"Mul", api.OpMul, num.Mul, func(a, b *big.Int) api.Val { return fitted(new(big.Int).Mul(a, b)) }},
	{"Div", api.OpDiv, num.Div, func(a, b *big.Int) api.Val {
		if b.Sign() == 0 {
			return unknown
		}
		return fitted(new(big.Int).Quo(a, b))
	}},
	{"Mod", api.OpMod, num.Mod, func(a, b *big.Int) api.Val {
		if b.Sign() == 0 {
			return unknown
		}
		return fitted(new(big.Int).Rem(a, b))
	}},
}

type comparison struct {
	op   api.Op
	want func(sign int) bool
}

var comparisons = []comparison{
	{api.OpEq, func(s int) bool { return s == 0 }},
	{api.OpNe, func(s int) bool { return s != 0 }},
	{api.OpLt, func(s int) bool { return s < 0 }},
	{api.OpLe, func(s int) bool { return s <= 0 }},
	{api.OpGt, func(s int) bool { return s > 0 }},
	{api.OpGe, func(s int) bool { return s >= 0 }},
}

// pairs calls f with each two of the edges and of some scattered numbers.
func pairs(f func(a, b int64)) {
	l := append(slices.Clone(edges), scattered(256)...)
	for _, a := range l {
		for _, b := range l {
			f(a, b)
		}
	}
}

// Promises 1.1 and 1.2, against whole numbers without a bound.
func TestTrueResults(t *testing.T) {
	for _, c := range numbers {
		pairs(func(a, b int64) {
			want := c.want(big.NewInt(a), big.NewInt(b))
			if got := c.call(is(a), is(b)); got != want {
				t.Errorf("%s(%d, %d) = %v, want %v", c.name, a, b, got, want)
			}
		})
	}
	for _, a := range append(slices.Clone(edges), scattered(256)...) {
		want := fitted(new(big.Int).Neg(big.NewInt(a)))
		if got := num.Neg(is(a)); got != want {
			t.Errorf("Neg(%d) = %v, want %v", a, got, want)
		}
	}
}

// Promises 1.1 and 1.2: the numbers that the document writes out.
func TestNumbersAsWritten(t *testing.T) {
	for _, c := range []struct {
		name      string
		got, want api.Val
	}{
		{"7 by 2", num.Div(is(7), is(2)), is(3)},
		{"-7 by 2", num.Div(is(-7), is(2)), is(-3)},
		{"7 by -2", num.Div(is(7), is(-2)), is(-3)},
		{"-7 by -2", num.Div(is(-7), is(-2)), is(3)},
		{"7 by 0", num.Div(is(7), is(0)), unknown},
		{"0 by 0", num.Div(is(0), is(0)), unknown},
		{"least by -1", num.Div(is(least), is(-1)), unknown},
		{"least + 1 by -1", num.Div(is(least+1), is(-1)), is(most)},
		{"7 mod 2", num.Mod(is(7), is(2)), is(1)},
		{"-7 mod 2", num.Mod(is(-7), is(2)), is(-1)},
		{"7 mod -2", num.Mod(is(7), is(-2)), is(1)},
		{"-7 mod -2", num.Mod(is(-7), is(-2)), is(-1)},
		{"7 mod 0", num.Mod(is(7), is(0)), unknown},
		{"least mod -1", num.Mod(is(least), is(-1)), is(0)},
		{"- least", num.Neg(is(least)), unknown},
		{"- most", num.Neg(is(most)), is(least + 1)},
	} {
		if c.got != c.want {
			t.Errorf("%s: %v, want %v", c.name, c.got, c.want)
		}
	}
}

// Promises 1.1 to 1.3: no number decides a result whose other part is unknown, 0 neither.
func TestUnknownParts(t *testing.T) {
	for _, u := range unknowns {
		for _, n := range append(slices.Clone(unknowns), is(0), is(1), is(-1), is(least), is(most)) {
			for _, c := range numbers {
				if got := c.call(u, n); got != unknown {
					t.Errorf("%s(%v, %v) = %v", c.name, u, n, got)
				}
				if got := c.call(n, u); got != unknown {
					t.Errorf("%s(%v, %v) = %v", c.name, n, u, got)
				}
			}
			for _, c := range comparisons {
				if got := num.Compare(c.op, u, n); got != unknown {
					t.Errorf("Compare(%d, %v, %v) = %v", c.op, u, n, got)
				}
				if got := num.Compare(c.op, n, u); got != unknown {
					t.Errorf("Compare(%d, %v, %v) = %v", c.op, n, u, got)
				}
			}
		}
		if got := num.Neg(u); got != unknown {
			t.Errorf("Neg(%v) = %v", u, got)
		}
	}
}

// Promise 1.3, with the operators that are none.
func TestCompare(t *testing.T) {
	for _, c := range comparisons {
		pairs(func(a, b int64) {
			want := no
			if c.want(big.NewInt(a).Cmp(big.NewInt(b))) {
				want = yes
			}
			if got := num.Compare(c.op, is(a), is(b)); got != want {
				t.Errorf("Compare(%d, %d, %d) = %v, want %v", c.op, a, b, got, want)
			}
		})
	}
	for _, op := range everyOp() {
		if op >= api.OpEq && op <= api.OpGe {
			continue
		}
		for _, b := range []int64{3, 4} {
			if got := num.Compare(op, is(3), is(b)); got != unknown {
				t.Errorf("Compare(%d, 3, %d) = %v", op, b, got)
			}
		}
	}
}

// shapes: by truth (no, unknown, yes) what may be handed in for it.
var shapes = [3][]api.Val{{no}, unknowns, {yes, is(5), is(-1), is(least), is(most)}}

var andWant = [3][3]api.Val{
	{no, no, no},
	{no, unknown, unknown},
	{no, unknown, yes},
}

var orWant = [3][3]api.Val{
	{no, unknown, yes},
	{unknown, unknown, yes},
	{yes, yes, yes},
}

// Promise 1.4.
func TestAndOr(t *testing.T) {
	for i := range shapes {
		for j := range shapes {
			for _, a := range shapes[i] {
				for _, b := range shapes[j] {
					if got := num.And(a, b); got != andWant[i][j] {
						t.Errorf("And(%v, %v) = %v, want %v", a, b, got, andWant[i][j])
					}
					if got := num.Or(a, b); got != orWant[i][j] {
						t.Errorf("Or(%v, %v) = %v, want %v", a, b, got, orWant[i][j])
					}
				}
			}
		}
	}
}

// Promises 1.4 (Not) and 1.5.
func TestNotTrue(t *testing.T) {
	want := [3]api.Val{yes, unknown, no}
	for i := range shapes {
		for _, a := range shapes[i] {
			if got := num.Not(a); got != want[i] {
				t.Errorf("Not(%v) = %v, want %v", a, got, want[i])
			}
			if got := num.True(a); got != (i == 2) {
				t.Errorf("True(%v) = %v", a, got)
			}
		}
	}
}

// everyOp: all operators, and numbers around and far from them that are none.
func everyOp() []api.Op {
	out := []api.Op{math.MinInt, 256 + api.OpAdd, 65536 + api.OpAnd, 65536 + api.OpSum, math.MaxInt}
	for op := api.Op(-4); op <= 40; op++ {
		out = append(out, op)
	}
	return out
}

// named: what the call of an operator's own name answers; false: it has none.
func named(op api.Op, a, b api.Val) (api.Val, bool) {
	for _, c := range numbers {
		if c.op == op {
			return c.call(a, b), true
		}
	}
	for _, c := range comparisons {
		if c.op == op {
			return num.Compare(op, a, b), true
		}
	}
	switch op {
	case api.OpAnd:
		return num.And(a, b), true
	case api.OpOr:
		return num.Or(a, b), true
	}
	return unknown, false
}

// Promise 1.6.
func TestApply(t *testing.T) {
	parts := append(slices.Clone(unknowns), is(0), is(1), is(2), is(-7), is(-1), is(least), is(most))
	tried := 0
	for _, op := range everyOp() {
		for _, a := range parts {
			for _, b := range parts {
				want, ok := named(op, a, b)
				if got := num.Apply(op, a, b); got != want {
					t.Errorf("Apply(%d, %v, %v) = %v, want %v", op, a, b, got, want)
				}
				if ok && a == is(-7) && b == is(2) {
					tried++
				}
			}
		}
	}
	if tried != 13 {
		t.Errorf("%d operators were held against calls of their own, want 13", tried)
	}
	for _, op := range []api.Op{api.OpNeg, api.OpNot, api.OpNum, api.OpAttr, api.OpSum, 0, 27, -1} {
		if got := num.Apply(op, is(1), is(1)); got != unknown {
			t.Errorf("Apply(%d, 1, 1) = %v", op, got)
		}
	}
}

// Promise 1.7: by list, what COUNT, SUM, MIN, MAX, FIRST, LAST answer.
func TestFold(t *testing.T) {
	for _, c := range []struct {
		l    []int64
		want [6]api.Val
	}{
		{nil, [6]api.Val{is(0), is(0), unknown, unknown, unknown, unknown}},
		{[]int64{}, [6]api.Val{is(0), is(0), unknown, unknown, unknown, unknown}},
		{make([]int64, 0, 4), [6]api.Val{is(0), is(0), unknown, unknown, unknown, unknown}},
		{[]int64{0}, [6]api.Val{is(1), is(0), is(0), is(0), is(0), is(0)}},
		{[]int64{-3}, [6]api.Val{is(1), is(-3), is(-3), is(-3), is(-3), is(-3)}},
		{[]int64{least}, [6]api.Val{is(1), is(least), is(least), is(least), is(least), is(least)}},
		{[]int64{most}, [6]api.Val{is(1), is(most), is(most), is(most), is(most), is(most)}},
		{[]int64{4, 9, 2}, [6]api.Val{is(3), is(15), is(2), is(9), is(4), is(2)}},
		{[]int64{2, 2, 9, -4, 9}, [6]api.Val{is(5), is(18), is(-4), is(9), is(2), is(9)}},
		{[]int64{most, 1}, [6]api.Val{is(2), unknown, is(1), is(most), is(most), is(1)}},
		{[]int64{least, -1}, [6]api.Val{is(2), unknown, is(least), is(-1), is(least), is(-1)}},
		{[]int64{least, most}, [6]api.Val{is(2), is(-1), is(least), is(most), is(least), is(most)}},
	} {
		for i, want := range c.want {
			if got := num.Fold(api.OpCount+api.Op(i), c.l); got != want {
				t.Errorf("Fold(%d, %v) = %v, want %v", int(api.OpCount)+i, c.l, got, want)
			}
		}
	}
}

// Promise 1.7: an operator that is no aggregate, over lists with and without numbers.
func TestFoldOtherOps(t *testing.T) {
	for _, op := range everyOp() {
		if op >= api.OpCount && op <= api.OpLast {
			continue
		}
		for _, l := range [][]int64{nil, {}, {1}, {1, 2, 3}} {
			if got := num.Fold(op, l); got != unknown {
				t.Errorf("Fold(%d, %v) = %v", op, l, got)
			}
		}
	}
}

// trueSum: the sum in whole numbers without a bound.
func trueSum(l []int64) api.Val {
	sum := new(big.Int)
	for _, n := range l {
		sum.Add(sum, big.NewInt(n))
	}
	return fitted(sum)
}

// orders calls f with the list in each of its orders.
func orders(l []int64, at int, f func(l []int64)) {
	if at == len(l) {
		f(l)
		return
	}
	for i := at; i < len(l); i++ {
		l[at], l[i] = l[i], l[at]
		orders(l, at+1, f)
		l[at], l[i] = l[i], l[at]
	}
}

// Promise 1.7: the sum may leave int64 on the way, and come back, in whatever order.
func TestSumLeavesAndComesBack(t *testing.T) {
	for _, l := range [][]int64{
		{most, 1, -1}, {least, -1, 1}, {least, least, most, most, 2}, {most, most, least, least},
		{most, most, least, least, 1, most}, {least, least, most, most, 3, -1}, {most, 1, 1, -1}, {least, -1, -1, 1},
		{most, most, most, least, least, least},
	} {
		want := trueSum(l)
		orders(slices.Clone(l), 0, func(p []int64) {
			if got := num.Fold(api.OpSum, p); got != want {
				t.Errorf("Fold(OpSum, %v) = %v, want %v", p, got, want)
			}
		})
	}
}

// Promise 1.7: long lists, whose sum goes far beyond 64 bits ahead of coming back.
func TestLongSum(t *testing.T) {
	const half = 1 << 17
	l := make([]int64, 0, 2*half+1)
	for range half {
		l = append(l, most)
	}
	if got := num.Fold(api.OpSum, l); got != unknown {
		t.Errorf("the sum of %d times most = %v", half, got)
	}
	for range half {
		l = append(l, least)
	}
	if got := num.Fold(api.OpSum, l); got != is(-half) {
		t.Errorf("the sum there and back = %v, want %d", got, -half)
	}
	slices.Reverse(l)
	l = append(l, half+5)
	if got := num.Fold(api.OpSum, l); got != is(5) {
		t.Errorf("the sum back and there = %v, want 5", got)
	}
	if got := num.Fold(api.OpCount, l); got != is(2*half+1) {
		t.Errorf("the count = %v", got)
	}
	many := scattered(5000)
	for n := range many {
		if n%97 != 0 {
			continue
		}
		if got, want := num.Fold(api.OpSum, many[:n]), trueSum(many[:n]); got != want {
			t.Errorf("the sum of %d scattered numbers = %v, want %v", n, got, want)
		}
	}
}

// The chapter's examples, one by one.
func TestExamples(t *testing.T) {
	for i, c := range []struct{ got, want api.Val }{
		{num.Add(is(9223372036854775807), is(1)), unknown},
		{num.Add(is(9223372036854775807), is(-1)), is(9223372036854775806)},
		{num.Sub(is(-9223372036854775808), is(1)), unknown},
		{num.Sub(is(0), is(-9223372036854775808)), unknown},
		{num.Mul(is(4294967296), is(2147483648)), unknown},
		{num.Mul(is(4294967296), is(-2147483648)), is(-9223372036854775808)},
		{num.Mul(is(0), unknown), unknown},
		{num.Neg(is(-9223372036854775808)), unknown},
		{num.Div(is(-9223372036854775808), is(-1)), unknown},
		{num.Mod(is(-9223372036854775808), is(-1)), is(0)},
		{num.Compare(api.OpLe, is(3), api.Val{N: 9}), unknown},
		{num.Compare(api.OpAdd, is(3), is(3)), unknown},
		{num.And(is(0), unknown), is(0)},
		{num.Or(unknown, is(-4)), is(1)},
		{num.Not(is(9)), is(0)},
		{num.Apply(api.OpMod, is(-7), is(2)), is(-1)},
		{num.Apply(api.OpNot, is(1), is(1)), unknown},
		{num.Fold(api.OpSum, []int64{9223372036854775807, 1, -1}), is(9223372036854775807)},
		{num.Fold(api.OpSum, []int64{}), is(0)},
		{num.Fold(api.OpMin, []int64{}), unknown},
		{num.Fold(api.OpLast, []int64{4, 9, 2}), is(2)},
		{num.And(is(5), is(6)), is(1)},
	} {
		if c.got != c.want {
			t.Errorf("example %d: %v, want %v", i, c.got, c.want)
		}
	}
}

// everyAnswer: what all calls answer, over operators that are ones and none, and over known and unknown parts.
func everyAnswer() []api.Val {
	parts := append(slices.Clone(unknowns), is(0), is(1), is(-1), is(least), is(most))
	lists := [][]int64{nil, {}, {least}, {most, most}, edges}
	var out []api.Val
	for _, op := range everyOp() {
		for _, a := range parts {
			out = append(out, num.Neg(a), num.Not(a))
			if num.True(a) {
				out = append(out, yes)
			}
			for _, b := range parts {
				out = append(out, num.Apply(op, a, b), num.Compare(op, a, b))
			}
		}
		for _, l := range lists {
			out = append(out, num.Fold(op, l))
		}
	}
	return out
}

// Promise P1, and the chapter's words: every call answers, and an answer that is unknown is {false, 0}.
func TestAnswersAtEveryArgument(t *testing.T) {
	for _, v := range everyAnswer() {
		if !v.Known && v != unknown {
			t.Fatalf("an unknown answer with a number in it: %v", v)
		}
	}
}

// Promise P2: the list is not changed, nor what stands in its spare room; and what is written into it later changes no answer.
func TestFoldLeavesItsList(t *testing.T) {
	whole := []int64{9, most, 1, -1, least, 4, 3, 2}
	was := slices.Clone(whole)
	l := whole[1:5]
	for _, op := range everyOp() {
		first := num.Fold(op, l)
		if !slices.Equal(whole, was) {
			t.Fatalf("Fold(%d) changed its list: %v, was %v", op, whole, was)
		}
		for i := range whole {
			whole[i] = 77
		}
		if got := num.Fold(op, slices.Clone(was[1:5])); got != first {
			t.Fatalf("Fold(%d) of the same numbers = %v, was %v", op, got, first)
		}
		copy(whole, was)
	}
}

// Promise P3: the same is answered however often, and by however many at a time, it is asked.
func TestAnswersHangOnArguments(t *testing.T) {
	want := everyAnswer()
	var group sync.WaitGroup
	got := make([][]api.Val, 4)
	for i := range got {
		group.Go(func() { got[i] = everyAnswer() })
	}
	group.Wait()
	for i, g := range got {
		if !slices.Equal(g, want) {
			t.Errorf("round %d answered otherwise", i)
		}
	}
}

package check_test

import (
	"fmt"
	"slices"

	"sluice/api"
)

// scattered: the schema over which queries grow.
const scattered = "type A(x, k) type B(k, x, y) type C(k) type D()"

// grounds: that schema.
var grounds = schemaOf(scattered)

// scatter: picks numbers below n that follow no rule one can see, the same ones each time.
func scatter(seed uint64) func(n int) int {
	state := 88172645463325252 + seed<<32
	return func(n int) int {
		state ^= state << 13
		state ^= state >> 7
		state ^= state << 17
		return int(state % uint64(n))
	}
}

// grower: makes queries. One choice in so many as odd says is a wrong one.
type grower struct {
	pick  func(int) int
	odd   int
	items []api.Item
}

func (g grower) wrong() bool { return g.pick(g.odd) == 0 }

// one: one of the list.
func one[T any](g grower, list ...T) T { return list[g.pick(len(list))] }

// query: a well shaped one.
func (g grower) query() asked {
	var a asked
	n := 1 + g.pick(5)
	if g.wrong() {
		n = 9 + g.pick(4)
	}
	for i := range n {
		a.Items = append(a.Items, g.item(i))
	}
	if g.wrong() {
		for i := range a.Items {
			a.Items[i].Neg, a.Items[i].Lo, a.Items[i].Hi = true, 1, 1
		}
	} else {
		a.Items[g.pick(n)].Neg = false
	}
	g.items = a.Items
	a.Mode, a.After, a.Within = api.Mode(g.pick(3)), api.After(g.pick(4)), one(g, 0, 5, api.MaxWindow)
	if g.wrong() {
		a.Within = one(g, api.MaxWindow+1, 1<<63-1)
	}
	if g.pick(2) == 0 {
		a.By = g.common()
	}
	if g.pick(5) > 0 {
		a.where = []term{g.where(g.pick(5))}
	}
	m := g.pick(4)
	if g.wrong() {
		m = 7 + g.pick(4)
	}
	for range m {
		a.ret = append(a.ret, g.expr(g.wrong(), g.pick(5), true))
	}
	return a
}

func (g grower) item(number int) api.Item {
	i := api.Item{Neg: g.pick(4) == 0, Types: slices.Clone([][]string{{"A"}, {"B"}, {"C"}, {"A", "B"}, {"B", "C"}, {"C", "B", "A"}, {"D"}, {"A"}, {"B"}}[g.pick(9)]), Var: fmt.Sprint("v", number), Lo: 1, Hi: 1}
	if g.wrong() {
		i.Types = slices.Insert(i.Types, g.pick(len(i.Types)+1), one(g, "Q", i.Types[0]))
	}
	if g.wrong() {
		i.Var = fmt.Sprint("v", g.pick(number+1))
	}
	if i.Neg {
		return i
	}
	if g.pick(3) == 0 {
		i.Lo, i.Hi = 1+g.pick(2), 2+g.pick(3)
	}
	if g.wrong() {
		i.Lo, i.Hi = g.pick(7), g.pick(7)
	}
	return i
}

// common: an attribute to partition by that all items have, if there is one.
func (g grower) common() string {
	if g.wrong() {
		return one(g, "ts", "k", "x", "z")
	}
	for _, attr := range []string{"k", "x", "y"} {
		if !slices.ContainsFunc(g.items, func(i api.Item) bool { return !has(grounds, i, attr) }) {
			return attr
		}
	}
	return ""
}

// where: so many conjuncts and one, each about items that may stand together.
func (g grower) where(more int) term {
	if more > 0 && g.pick(4) > 0 {
		left := g.pick(more)
		return of(api.OpAnd, g.where(left), g.where(more-1-left))
	}
	inner := g
	if g.pick(6) > 0 && !g.wrong() {
		inner.items = g.unmixed()
	}
	return inner.expr(!inner.wrong(), inner.pick(5), false)
}

// unmixed: the items that are single, and one that is not.
func (g grower) unmixed() []api.Item {
	kept := g.pick(len(g.items))
	var out []api.Item
	for n, i := range g.items {
		if n == kept || kind(i) == 's' {
			out = append(out, i)
		}
	}
	return out
}

// expr: a truth or a number of so many operators.
func (g grower) expr(truth bool, operators int, result bool) term {
	if g.wrong() && g.wrong() {
		truth = !truth
	}
	if operators == 0 {
		return g.leaf(truth, result)
	}
	left := g.pick(operators)
	two := func(op api.Op, truths bool) term {
		return of(op, g.expr(truths, left, result), g.expr(truths, operators-1-left, result))
	}
	switch {
	case truth && g.pick(3) == 0:
		return of(api.OpNot, g.expr(true, operators-1, result))
	case truth && g.pick(3) == 0:
		return two(one(g, api.OpAnd, api.OpOr), true)
	case truth:
		return two(api.OpEq+api.Op(g.pick(6)), false)
	case g.pick(4) == 0:
		return of(api.OpNeg, g.expr(false, operators-1, result))
	}
	return two(api.OpAdd+api.Op(g.pick(5)), false)
}

func (g grower) leaf(truth, result bool) term {
	if truth {
		return of(api.OpTrue + api.Op(g.pick(2)))
	}
	if g.pick(4) == 0 {
		return term{op: api.OpNum, n: int64(g.pick(1000))}
	}
	if len(g.items) == 0 || g.wrong() {
		return g.mention("z", api.Item{}, result)
	}
	i := one(g, g.items...)
	return g.mention(i.Var, i, result)
}

// mention: one that the item's variable may have there.
func (g grower) mention(v string, i api.Item, result bool) term {
	op := api.OpAttr
	if g.pick(3) == 0 {
		op = api.OpCount + api.Op(g.pick(6))
	}
	switch {
	case g.wrong():
		op = api.OpAttr + api.Op(g.pick(8))
	case kind(i) == 'n' && result:
		return term{op: api.OpNum}
	case kind(i) == 'n':
		op = api.OpAttr
	case kind(i) == 'r' && result && op == api.OpAttr:
		op = api.OpLast
	case kind(i) == 'r' && !result && g.pick(3) == 0:
		op = api.OpPrev
	}
	if op == api.OpCount {
		return term{op: op, v: v}
	}
	return term{op: op, v: v, attr: g.attr(i)}
}

func (g grower) attr(i api.Item) string {
	if g.wrong() {
		return one(g, "x", "y", "k", "z")
	}
	for _, attr := range []string{one(g, "x", "y", "k"), "k"} {
		if has(grounds, i, attr) {
			return attr
		}
	}
	return "ts"
}

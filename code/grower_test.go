package code_test

import (
	"fmt"
	"math"

	"sluice/api"
)

// scatter: picks numbers below n that follow no rule one can see, the same ones each time.
func scatter(seed uint64) func(n int) int {
	state := 88172645463325252 + seed<<32
	return func(n int) int {
		state ^= state << 13
		state ^= state >> 7
		state ^= state << 17
		return int(state % uint64(n))
	}
}

// grower: makes what the calls take. One choice in so many as odd says is a wrong one.
type grower struct {
	pick func(int) int
	odd  int
}

func (g grower) wrong() bool { return g.pick(g.odd) == 0 }

// one: one of the list.
func one[T any](g grower, list ...T) T { return list[g.pick(len(list))] }

// attrNames, varNames: what trees mention.
var attrNames, varNames = []string{"x", "y", "k", "ts"}, []string{"a", "b", "c"}

// schema: a sound one, or one with types or attributes twice, with too many of them, or with an attribute called ts.
func (g grower) schema() api.Schema {
	var s api.Schema
	for i := range 1 + g.pick(4) {
		t := api.TypeDef{Name: fmt.Sprint("T", i)}
		for _, attr := range attrNames[:3] {
			if g.pick(3) > 0 {
				t.Attrs = append(t.Attrs, attr)
			}
		}
		for i := len(t.Attrs) - 1; i > 0; i-- {
			j := g.pick(i + 1)
			t.Attrs[i], t.Attrs[j] = t.Attrs[j], t.Attrs[i]
		}
		if g.wrong() {
			for range g.pick(12) {
				t.Attrs = append([]string{one(g, "x", "ts", "w", "")}, t.Attrs...)
			}
		}
		s.Types = append(s.Types, t)
	}
	if g.wrong() {
		s.Types = nil
	}
	return s
}

// query: the items alone; two of them may have one variable.
func (g grower) query() api.Query {
	var q api.Query
	for range 2 + g.pick(3) {
		q.Items = append(q.Items, api.Item{Neg: g.pick(4) == 0, Types: []string{"T0"}, Var: one(g, varNames...), Lo: 1, Hi: 1 + g.pick(4)})
	}
	for i, v := range varNames {
		if !g.wrong() && i < len(q.Items) {
			q.Items[i].Var = v
		}
	}
	return q
}

// number: a small one, or one at an end of int.
func (g grower) number(upTo int) int {
	if g.wrong() {
		return one(g, math.MinInt, math.MinInt+1, -2, -1, math.MaxInt-1, math.MaxInt)
	}
	return g.pick(upTo)
}

// expr: a truth or a number of so many operators.
func (g grower) expr(truth bool, operators int) term {
	if g.wrong() && g.wrong() {
		truth = !truth
	}
	if operators == 0 {
		return g.leaf(truth)
	}
	left := g.pick(operators)
	two := func(op api.Op, truths bool) term {
		return join(op, g.expr(truths, left), g.expr(truths, operators-1-left))
	}
	switch {
	case truth && g.pick(5) == 0:
		return join(api.OpNot, g.expr(true, operators-1))
	case truth && g.pick(2) == 0:
		return two(one(g, api.OpAnd, api.OpOr), true)
	case truth:
		return two(api.OpEq+api.Op(g.pick(6)), false)
	case g.pick(4) == 0:
		return join(api.OpNeg, g.expr(false, operators-1))
	}
	return two(api.OpAdd+api.Op(g.pick(5)), false)
}

func (g grower) leaf(truth bool) term {
	if truth {
		return term{op: api.OpTrue + api.Op(g.pick(2))}
	}
	if g.pick(4) == 0 {
		return term{op: api.OpNum, n: one(g, 0, 1, 2, 3, int64(g.pick(9)), math.MaxInt64)}
	}
	x := term{op: one(g, api.OpAttr, api.OpAttr, api.OpAttr+api.Op(g.pick(8))), v: one(g, varNames...)}
	if g.wrong() {
		x.v = "z"
	}
	if x.op != api.OpCount {
		x.attr = one(g, attrNames...)
	}
	if x.attr != "" && g.wrong() {
		x.attr = one(g, "w", "z")
	}
	return x
}

// tree: a truth or a number.
func (g grower) tree() term { return g.expr(g.pick(3) > 0, g.pick(9)) }

// event: one of so many types, or of none.
func (g grower) event(types int) api.Event {
	e := api.Event{Ts: int64(g.number(5)), Id: uint64(g.pick(3)), Type: g.pick(max(types, 1))}
	if g.wrong() {
		e.Type = one(g, math.MinInt, -2, -1, types, types+1, math.MaxInt)
	}
	for i := range e.Attrs {
		e.Attrs[i] = int64(g.number(5)) - 1
	}
	return e
}

// env: lists for so many items, or for one more or for fewer; an item that is gone through, or none.
func (g grower) env(types, items int) api.Env {
	env := api.Env{Each: g.number(items+2) - 1}
	for range max(items+1-g.pick(3)*g.pick(3), 0) {
		var list []api.Event
		for range g.pick(5) {
			list = append(list, g.event(types))
		}
		env.Lists = append(env.Lists, list)
	}
	env.At = g.number(6)
	return env
}

// column: for so many types, or for fewer.
func (g grower) column(types int) []int {
	out := make([]int, max(types-g.pick(3)*g.pick(2), 0))
	for i := range out {
		out[i] = one(g, 0, 1, 2, 7, api.ColTs)
		if g.wrong() {
			out[i] = one(g, math.MinInt, -3, api.ColNone, 8, 9, math.MaxInt)
		}
	}
	return out
}

// program: instructions that fit what lies on the stack, all but the wrong ones; at the end most often one value is left.
func (g grower) program(types, items int) api.Program {
	var p api.Program
	for range 1 + g.pick(3) {
		p.Cols = append(p.Cols, g.column(types))
	}
	length, depth := g.pick(14), 0
	for len(p.Code) < length || depth > 1 && g.pick(8) > 0 {
		in := g.instr(depth, len(p.Code) >= length)
		if in.Code <= api.CodeLast {
			depth++
		} else if in.Code >= api.CodeAdd && in.Code <= api.CodeOr {
			depth--
		}
		in.Item, in.Col, in.To = g.number(items+1), g.number(len(p.Cols)), len(p.Code)+1+g.number(4)
		if g.wrong() {
			in.To = g.number(len(p.Code) + 3)
		}
		p.Code = append(p.Code, in)
	}
	return p
}

// instr: one for a stack with so many values; if it is to end, one that takes values away.
func (g grower) instr(depth int, end bool) api.Instr {
	if g.wrong() {
		return api.Instr{Code: api.Code(g.number(30)), N: 1}
	}
	in := api.Instr{Code: api.CodePush + api.Code(g.pick(9)), N: one[int64](g, 0, 0, 1, 2, -3, math.MinInt64)}
	switch {
	case depth >= 2 && (end || g.pick(2) == 0):
		in.Code = api.CodeAdd + api.Code(g.pick(13))
	case depth >= 1 && g.pick(2) == 0:
		in.Code = one(g, api.CodeIfNo, api.CodeIfYes, api.CodeIfNo, api.CodeIfYes, api.CodeNeg, api.CodeNot)
	}
	return in
}

package plan_test

import (
	"slices"
	"testing"

	"sluice/api"
	"sluice/check"
	"sluice/code"
	"sluice/plan"
)

// A second builder, over expressions that are trees of their own: it asks of each list of the plan which conjuncts belong into it, by what they mention.

// term: an expression, whose operands are its parts.
type term struct {
	op      api.Op
	n       int64
	v, attr string
	parts   []term
}

func join(op api.Op, parts ...term) term { return term{op: op, parts: parts} }

// nodes: the term's nodes in post order.
func nodes(x term) []api.Node {
	out, _ := behind(nil, x)
	return out
}

// behind: the list with the term's nodes behind it, and the place of its root.
func behind(list []api.Node, x term) ([]api.Node, int) {
	n := api.Node{Op: x.op, N: x.n, Var: x.v, Attr: x.attr, A: -1, B: -1}
	if len(x.parts) > 0 {
		list, n.A = behind(list, x.parts[0])
	}
	if len(x.parts) > 1 {
		list, n.B = behind(list, x.parts[1])
	}
	return append(list, n), len(list)
}

// termOf: the term whose root stands at a place of a tree.
func termOf(t []api.Node, root int) term {
	n := t[root]
	x := term{op: n.Op, n: n.N, v: n.Var, attr: n.Attr}
	for _, operand := range []int{n.A, n.B} {
		if operand >= 0 {
			x.parts = append(x.parts, termOf(t, operand))
		}
	}
	return x
}

// cut: the conjuncts of a term, from left to right.
func (x term) cut() []term {
	if x.op == api.OpAnd {
		return append(x.parts[0].cut(), x.parts[1].cut()...)
	}
	return []term{x}
}

// conjunctsOf: those of a query.
func conjunctsOf(q api.Query) []term {
	if len(q.Where) == 0 {
		return nil
	}
	return termOf(q.Where, len(q.Where)-1).cut()
}

// mentions: what a term mentions: leaves with a variable.
func (x term) mentions() []term {
	var out []term
	if x.v != "" {
		out = append(out, x)
	}
	for _, p := range x.parts {
		out = append(out, p.mentions()...)
	}
	return out
}

func (x term) bare() bool { return x.op == api.OpAttr || x.op == api.OpPrev }

// says: does a term mention the variable?
func (x term) says(v string) bool {
	return slices.ContainsFunc(x.mentions(), func(m term) bool { return m.v == v })
}

// saysNothing, saysPrev: does a term mention no variable at all, one by PREV?
func (x term) saysNothing() bool { return len(x.mentions()) == 0 }

func (x term) saysPrev() bool {
	return slices.ContainsFunc(x.mentions(), func(m term) bool { return m.op == api.OpPrev })
}

// isOwn: is it an own filter of the variable's item: does it mention that, no other variable, and all by v.attr alone?
func (x term) isOwn(v string) bool {
	other := func(m term) bool { return m.v != v || m.op != api.OpAttr }
	return !x.saysNothing() && !slices.ContainsFunc(x.mentions(), other)
}

// saysAny: does a term mention the variable of one of the items that are so?
func (x term) saysAny(q api.Query, is func(int, api.Item) bool) bool {
	for n, i := range q.Items {
		if is(n, i) && x.says(i.Var) {
			return true
		}
	}
	return false
}

func negated(_ int, i api.Item) bool { return i.Neg }

// isCond: is it a condition of that component's item: does it mention that, none ahead of it, none that is negated, and is it no own filter?
func (x term) isCond(q api.Query, item int) bool {
	ahead := func(n int, _ api.Item) bool { return n < item }
	return x.says(q.Items[item].Var) && !x.saysAny(q, negated) && !x.saysAny(q, ahead) && !x.isOwn(q.Items[item].Var)
}

// goesThrough: the item of the repeated variable that a term mentions barely, -1 if there is none.
func (x term) goesThrough(q api.Query) int {
	for n, i := range q.Items {
		if i.Hi > 1 && slices.ContainsFunc(x.mentions(), func(m term) bool { return m.bare() && m.v == i.Var }) {
			return n
		}
	}
	return -1
}

// typeNumbers: those of an item's types.
func typeNumbers(s api.Schema, i api.Item) []int {
	var out []int
	for _, name := range i.Types {
		out = append(out, slices.IndexFunc(s.Types, func(t api.TypeDef) bool { return t.Name == name }))
	}
	return out
}

// second: the plan of a well formed query.
func second(s api.Schema, q api.Query) api.Plan {
	p := api.Plan{Schema: s, Query: q, Lead: q.Items[0].Neg, Tail: q.Items[len(q.Items)-1].Neg}
	programs := func(belongs func(term) bool) (out []api.Program) {
		for _, x := range conjunctsOf(q) {
			if belongs(x) {
				out = append(out, code.Compile(s, q, nodes(x)))
			}
		}
		return out
	}
	p.Fixed = programs(term.saysNothing)
	components := 0
	for n, i := range q.Items {
		own := programs(func(x term) bool { return x.isOwn(i.Var) })
		if i.Neg {
			rest := programs(func(x term) bool { return x.says(i.Var) && !x.isOwn(i.Var) })
			p.Negs = append(p.Negs, api.Neg{Item: n, Types: typeNumbers(s, i), After: components - 1, Before: components, Own: own, Rest: rest})
			continue
		}
		components++
		c := api.Comp{Item: n, Types: typeNumbers(s, i), Lo: i.Lo, Hi: i.Hi, Own: own}
		for _, x := range conjunctsOf(q) {
			if x.isCond(q, n) {
				c.Conds = append(c.Conds, api.Cond{Prog: code.Compile(s, q, nodes(x)), Each: x.goesThrough(q), Prev: x.saysPrev()})
			}
		}
		p.Comps = append(p.Comps, c)
	}
	for _, t := range s.Types {
		used := slices.ContainsFunc(q.Items, func(i api.Item) bool { return slices.Contains(i.Types, t.Name) })
		column := -1
		if used {
			column = slices.Index(t.Attrs, q.By)
		}
		p.Used, p.Cols = append(p.Used, used), append(p.Cols, column)
	}
	for _, tree := range q.Ret {
		p.Ret = append(p.Ret, code.Compile(s, q, tree))
	}
	return p
}

// Promises 8.1 and 8.2 against the second builder, over scattered queries.
func TestAgainstTheSecondBuilder(t *testing.T) {
	pick := scatter(1)
	count := map[string]int{}
	for range 20000 {
		s, q := grower{pick: pick, odd: []int{1000, 300, 30}[pick(3)]}.given()
		p, flaw := plan.Build(s, q)
		if want := check.Check(s, q); flaw != want {
			t.Fatalf("8.1: %+v: %+v, want %+v", q, flaw, want)
		}
		if flaw != (api.Flaw{}) {
			count["flaw"]++
			if told(p) != told(api.Plan{}) {
				t.Fatalf("8.1, P4: %+v has a flaw and the plan %+v", q, p)
			}
			continue
		}
		if want := second(s, q); told(p) != told(want) {
			t.Fatalf("8.1, 8.2: %+v, %+v:\n%+v, want\n%+v", s, q, p, want)
		}
		tally(count, p)
	}
	for _, kind := range []string{"flaw", "fixed", "own", "guard", "rest", "once", "each", "prev", "behind others", "lead", "tail", "by", "result"} {
		if count[kind] < 500 {
			t.Errorf("%s comes up %d times: too seldom", kind, count[kind])
		}
	}
}

// tally counts what there is in a plan.
func tally(count map[string]int, p api.Plan) {
	count["fixed"] += len(p.Fixed)
	count["result"] += len(p.Ret)
	for number, c := range p.Comps {
		count["own"] += len(c.Own)
		for _, x := range c.Conds {
			switch {
			case x.Prev:
				count["prev"]++
			case x.Each >= 0:
				count["each"]++
			default:
				count["once"]++
			}
			if number > 0 {
				count["behind others"]++
			}
		}
	}
	for _, n := range p.Negs {
		count["guard"] += len(n.Own)
		count["rest"] += len(n.Rest)
	}
	for kind, is := range map[string]bool{"lead": p.Lead, "tail": p.Tail, "by": p.Query.By != ""} {
		if is {
			count[kind]++
		}
	}
}

package plan_test

import (
	"fmt"
	"slices"

	"sluice/api"
)

// scatter: picks numbers below n that follow no rule one can see, the same ones each time.
func scatter(seed uint64) func(n int) int {
	state := 88172645463325252 + seed<<32
	return func(n int) int {
		state ^= state << 13
		state ^= state >> 7
		state ^= state << 17
		return int(state % uint64(n))
	}
}

// grower: makes schemas, queries over them, and events. One choice in so many as odd says is a wrong one.
type grower struct {
	pick  func(int) int
	odd   int
	types api.Schema
	items []api.Item
}

func (g grower) wrong() bool { return g.pick(g.odd) == 0 }

// one: one of the list.
func one[T any](g grower, list ...T) T { return list[g.pick(len(list))] }

// some: up to so many of the list, none twice, in any order.
func some[T any](g grower, most int, list []T) []T {
	list = slices.Clone(list)
	for i := range list {
		j := i + g.pick(len(list)-i)
		list[i], list[j] = list[j], list[i]
	}
	return list[:min(g.pick(most+1), len(list))]
}

// schema: types whose attributes stand in any order; nearly all have k.
func (g grower) schema() api.Schema {
	var s api.Schema
	for i := range 2 + g.pick(4) {
		attrs := some(g, 3, []string{"x", "y", "z"})
		if g.pick(8) > 0 {
			attrs = slices.Insert(attrs, g.pick(len(attrs)+1), "k")
		}
		s.Types = append(s.Types, api.TypeDef{Name: fmt.Sprint("T", i), Attrs: attrs})
	}
	return s
}

// given: a schema and a query over it, which is well formed but for the wrong choices.
func (g grower) given() (api.Schema, api.Query) {
	g.types = g.schema()
	var q api.Query
	for i := range 1 + g.pick(5) {
		q.Items = append(q.Items, g.item(i))
	}
	if !g.wrong() {
		q.Items[g.pick(len(q.Items))].Neg = false
	}
	g.items = q.Items
	q.Mode, q.After, q.Within = api.Mode(g.pick(3)), api.After(g.pick(4)), int64(g.pick(9))
	if g.pick(2) == 0 {
		q.By = g.common(q.Items...)
	}
	if more := g.pick(7); more > 0 {
		q.Where = nodes(g.where(more - 1))
	}
	for range g.pick(4) {
		q.Ret = append(q.Ret, nodes(g.result()))
	}
	return g.types, q
}

func (g grower) item(number int) api.Item {
	i := api.Item{Neg: g.pick(3) == 0, Var: fmt.Sprint("v", number), Lo: 1, Hi: 1}
	for _, t := range some(g, 3, g.types.Types) {
		i.Types = append(i.Types, t.Name)
	}
	if len(i.Types) == 0 || g.wrong() {
		i.Types = append(i.Types, "T0")
	}
	if !i.Neg && g.pick(2) == 0 {
		i.Hi = 2 + g.pick(3)
		i.Lo = 1 + g.pick(i.Hi)
	}
	return i
}

// isSingle: a component of one event.
func isSingle(i api.Item) bool { return !i.Neg && i.Hi == 1 }

// has: does each type of the item have the attribute?
func (g grower) has(i api.Item, attr string) bool {
	for _, t := range g.types.Types {
		if slices.Contains(i.Types, t.Name) && !slices.Contains(t.Attrs, attr) {
			return false
		}
	}
	return true
}

// common: an attribute that all these items have; the empty text if there is none.
func (g grower) common(items ...api.Item) string {
	if g.wrong() {
		return one(g, "ts", "q", "k")
	}
	for _, attr := range []string{one(g, "x", "y", "z"), "k", "x", "y", "z"} {
		if !slices.ContainsFunc(items, func(i api.Item) bool { return !g.has(i, attr) }) {
			return attr
		}
	}
	return ""
}

// attr: one that the item has.
func (g grower) attr(i api.Item) string {
	if attr := g.common(i); attr != "" && g.pick(5) > 0 {
		return attr
	}
	return "ts"
}

// where: so many conjuncts and one, joined in some way.
func (g grower) where(more int) term {
	if more > 0 {
		left := g.pick(more)
		return join(api.OpAnd, g.where(left), g.where(more-1-left))
	}
	return g.truth(g.cast(), 1+g.pick(3))
}

// cast: what a conjunct can mention: some single items, one that is not, aggregates of some components.
func (g grower) cast() []term {
	var out []term
	var singles, others, components []api.Item
	for _, i := range g.items {
		if isSingle(i) {
			singles = append(singles, i)
		} else {
			others = append(others, i)
		}
		if !i.Neg {
			components = append(components, i)
		}
	}
	for _, i := range some(g, 2, singles) {
		out = append(out, term{op: api.OpAttr, v: i.Var, attr: g.attr(i)})
	}
	for _, i := range some(g, 1, others) {
		out = append(out, term{op: api.OpAttr, v: i.Var, attr: g.attr(i)})
		if !i.Neg && g.pick(2) == 0 {
			out = append(out, term{op: api.OpPrev, v: i.Var, attr: g.attr(i)})
		}
	}
	if g.pick(3) == 0 {
		for _, i := range some(g, 2, components) {
			out = append(out, g.aggregate(i))
		}
	}
	return out
}

func (g grower) aggregate(i api.Item) term {
	if g.pick(3) == 0 {
		return term{op: api.OpCount, v: i.Var}
	}
	return term{op: api.OpSum + api.Op(g.pick(5)), v: i.Var, attr: g.attr(i)}
}

// truth: of so many operators at most, over what a cast mentions.
func (g grower) truth(cast []term, operators int) term {
	switch {
	case operators > 1 && g.pick(4) == 0:
		return join(api.OpNot, g.truth(cast, operators-1))
	case operators > 1 && g.pick(3) == 0:
		return join(api.OpOr, g.truth(cast, operators/2), g.truth(cast, operators-operators/2))
	case operators > 2 && g.pick(4) == 0:
		return join(api.OpNot, join(api.OpAnd, g.truth(cast, 1), g.truth(cast, operators-2)))
	case g.pick(20) == 0:
		return term{op: one(g, api.OpTrue, api.OpTrue, api.OpFalse)}
	}
	return join(one(g, api.OpEq, api.OpNe, api.OpLe, api.OpGe, api.OpLt, api.OpGt), g.number(cast, operators-1), g.number(cast, operators-1))
}

func (g grower) number(cast []term, operators int) term {
	switch {
	case operators > 0 && g.pick(6) == 0:
		return join(api.OpNeg, g.number(cast, operators-1))
	case operators > 0 && g.pick(2) == 0:
		return join(api.OpAdd+api.Op(g.pick(5)), g.number(cast, operators-1), g.number(cast, 0))
	case len(cast) > 0 && g.pick(4) > 0:
		return one(g, cast...)
	}
	return term{op: api.OpNum, n: int64(g.pick(4))}
}

// result: what may stand behind RETURN.
func (g grower) result() term {
	var cast []term
	for _, i := range g.items {
		if isSingle(i) {
			cast = append(cast, term{op: api.OpAttr, v: i.Var, attr: g.attr(i)})
		}
		if !i.Neg {
			cast = append(cast, g.aggregate(i))
		}
	}
	return g.number(cast, g.pick(4))
}

// event: one of one of the types, with small numbers.
func (g grower) event(types []int) api.Event {
	e := api.Event{Ts: int64(g.pick(5)), Id: uint64(g.pick(9)), Type: one(g, types...)}
	for i := range e.Attrs {
		e.Attrs[i] = int64(g.pick(4))
	}
	return e
}

// binding: for each component of a plan Lo to Hi events of its types.
func (g grower) binding(p api.Plan) api.Binding {
	var out api.Binding
	for _, c := range p.Comps {
		list := make([]api.Event, c.Lo+g.pick(c.Hi-c.Lo+1))
		for i := range list {
			list[i] = g.event(c.Types)
		}
		out = append(out, list)
	}
	return out
}

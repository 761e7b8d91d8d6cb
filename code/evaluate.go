package code

import (
	"sluice/api"
	"sluice/event"
	"sluice/num"
)

// evaluator: what the values of a runnable tree's nodes hang on.
type evaluator struct {
	schema api.Schema
	items  map[string]int
	env    api.Env
	values []api.Val // of the nodes so far
}

// tree: the value of the last node. Operands stand ahead of their operator, so that the nodes are gone through once, however deep they lie.
func (e *evaluator) tree(t []api.Node) api.Val {
	e.values = make([]api.Val, len(t))
	for at, n := range t {
		e.values[at] = e.node(n)
	}
	return e.values[len(t)-1]
}

func (e *evaluator) node(n api.Node) api.Val {
	switch n.Op {
	case api.OpNum, api.OpTrue, api.OpFalse:
		return known(literal(n))
	case api.OpCount:
		return count(e.env, e.items[n.Var])
	case api.OpAttr, api.OpPrev, api.OpSum, api.OpMin, api.OpMax, api.OpFirst, api.OpLast:
		return mention(n.Op, e.env, e.items[n.Var], e.placesOf(n.Attr))
	case api.OpNeg:
		return num.Neg(e.values[n.A])
	case api.OpNot:
		return num.Not(e.values[n.A])
	}
	return num.Apply(n.Op, e.values[n.A], e.values[n.B])
}

// placesOf: where the types of the schema have an attribute.
func (e *evaluator) placesOf(attr string) places {
	return func(typ int) int { return event.AttrOf(e.schema, typ, attr) }
}

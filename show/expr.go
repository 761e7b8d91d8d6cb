package show

import "sluice/api"

// The levels: how strongly what a node is written as holds together.
const (
	levelOr = iota + 1
	levelAnd
	levelNot
	levelComp
	levelSum
	levelTerm
	levelMinus
	levelAtom
)

func level(op api.Op) int {
	switch {
	case op == api.OpOr:
		return levelOr
	case op == api.OpAnd:
		return levelAnd
	case op == api.OpNot:
		return levelNot
	case op >= api.OpEq && op <= api.OpGe:
		return levelComp
	case op == api.OpAdd || op == api.OpSub:
		return levelSum
	case op >= api.OpMul && op <= api.OpMod:
		return levelTerm
	case op == api.OpNeg:
		return levelMinus
	}
	return levelAtom
}

// tree: a well shaped one, which is gone down from its root.
type tree []api.Node

// expression: the canonical tokens of a well shaped tree.
func expression(t []api.Node) piece { return tree(t).node(len(t) - 1) }

// node: the canonical tokens of the node at that place.
func (t tree) node(at int) piece {
	n := t[at]
	switch level(n.Op) {
	case levelOr:
		return glue(t.operand(n.A, levelOr), fixed(api.KindOr), t.operand(n.B, levelAnd))
	case levelAnd:
		return glue(t.operand(n.A, levelAnd), fixed(api.KindAnd), t.operand(n.B, levelNot))
	case levelNot:
		return opened(fixed(api.KindNot), t.operand(n.A, levelNot))
	case levelComp:
		return glue(t.operand(n.A, levelSum), fixed(sign(n.Op)), t.operand(n.B, levelSum))
	case levelSum:
		return glue(t.operand(n.A, levelSum), fixed(sign(n.Op)), t.operand(n.B, levelTerm))
	case levelTerm:
		return glue(t.operand(n.A, levelTerm), fixed(sign(n.Op)), t.operand(n.B, levelMinus))
	case levelMinus:
		return opened(fixed(api.KindMinus), t.operand(n.A, levelMinus))
	}
	return leaf(n)
}

// operand: the tokens of the node at that place, in brackets if its level is less than the one that is needed there.
func (t tree) operand(at, needed int) piece {
	if level(t[at].Op) >= needed {
		return t.node(at)
	}
	return opened(fixed(api.KindOpen), t.node(at), fixed(api.KindClose))
}

// leaf: the tokens of a node without operands.
func leaf(n api.Node) piece {
	switch n.Op {
	case api.OpNum:
		return number(n.N)
	case api.OpTrue:
		return fixed(api.KindTrue)
	case api.OpFalse:
		return fixed(api.KindFalse)
	case api.OpAttr:
		return attribute(n)
	case api.OpCount:
		return glue(fixed(api.KindCount, api.KindOpen), name(n.Var), fixed(api.KindClose))
	}
	return glue(fixed(aggregate(n.Op), api.KindOpen), attribute(n), fixed(api.KindClose))
}

func attribute(n api.Node) piece { return glue(name(n.Var), fixed(api.KindDot), name(n.Attr)) }

// sign: the one of an operator from OpAdd to OpGe: their signs' kinds stand in the same order.
func sign(op api.Op) api.Kind { return api.KindPlus + api.Kind(op-api.OpAdd) }

// aggregate: the keyword of an operator from OpSum to OpPrev: the keywords' kinds stand in the same order.
func aggregate(op api.Op) api.Kind { return api.KindSum + api.Kind(op-api.OpSum) }

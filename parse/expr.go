package parse

import "sluice/api"

// whole: the tree of a text that is an expression and nothing else.
func (d *descent) whole() ([]api.Node, []int) {
	nodes, spots := d.tree()
	d.needEnd()
	return nodes, spots
}

// tree: the nodes of an expression, and of each the place of its own token.
func (d *descent) tree() ([]api.Node, []int) {
	var t tree
	d.expr(&t)
	return t.nodes, t.spots
}

func (d *descent) expr(t *tree) {
	d.and(t)
	for d.ahead() == api.KindOr {
		d.between(t, d.and)
	}
}

func (d *descent) and(t *tree) {
	d.not(t)
	for d.ahead() == api.KindAnd {
		d.between(t, d.not)
	}
}

func (d *descent) not(t *tree) {
	if d.ahead() == api.KindNot {
		d.ofOne(t, api.OpNot, d.not)
		return
	}
	d.comp(t)
}

// comp asks once for a sign: a comparison is not compared again.
func (d *descent) comp(t *tree) {
	d.sum(t)
	if k := d.ahead(); k >= api.KindEq && k <= api.KindGe {
		d.between(t, d.sum)
	}
}

func (d *descent) sum(t *tree) {
	d.term(t)
	for d.ahead() == api.KindPlus || d.ahead() == api.KindMinus {
		d.between(t, d.term)
	}
}

func (d *descent) term(t *tree) {
	d.minus(t)
	for k := d.ahead(); k >= api.KindStar && k <= api.KindPercent; k = d.ahead() {
		d.between(t, d.minus)
	}
}

func (d *descent) minus(t *tree) {
	if d.ahead() == api.KindMinus {
		d.ofOne(t, api.OpNeg, d.minus)
		return
	}
	d.atom(t)
}

// between: the operator behind the operand that the tree ends with, and the operand behind it.
func (d *descent) between(t *tree, operand func(*tree)) {
	sign, left := d.pass(), t.root()
	operand(t)
	t.add(sign.At, api.Node{Op: operator(sign.Kind), A: left, B: t.root()})
}

// ofOne: an operator ahead of its one operand, up to whose end it is open.
func (d *descent) ofOne(t *tree, op api.Op, operand func(*tree)) {
	sign := d.enter()
	operand(t)
	d.leave()
	t.add(sign.At, api.Node{Op: op, A: t.root(), B: none})
}

func (d *descent) atom(t *tree) {
	at := d.place()
	switch k := d.ahead(); k {
	case api.KindOpen:
		d.inBrackets(t)
	case api.KindNumber:
		t.add(at, api.Node{Op: api.OpNum, N: d.pass().N, A: none, B: none})
	case api.KindTrue:
		d.pass()
		t.add(at, api.Node{Op: api.OpTrue, A: none, B: none})
	case api.KindFalse:
		d.pass()
		t.add(at, api.Node{Op: api.OpFalse, A: none, B: none})
	case api.KindName:
		t.add(at, d.attribute(api.OpAttr))
	case api.KindCount:
		t.add(at, d.count())
	case api.KindSum, api.KindMin, api.KindMax, api.KindFirst, api.KindLast, api.KindPrev:
		t.add(at, d.aggregate())
	default:
		d.giveUp(api.ErrWord)
	}
}

func (d *descent) inBrackets(t *tree) {
	d.enter()
	d.expr(t)
	d.need(api.KindClose)
	d.leave()
}

func (d *descent) attribute(op api.Op) api.Node {
	v := d.name()
	d.need(api.KindDot)
	return api.Node{Op: op, Var: v, Attr: d.name(), A: none, B: none}
}

func (d *descent) count() api.Node {
	d.pass()
	d.need(api.KindOpen)
	v := d.name()
	d.need(api.KindClose)
	return api.Node{Op: api.OpCount, Var: v, A: none, B: none}
}

func (d *descent) aggregate() api.Node {
	op := aggregateOf(d.pass().Kind)
	d.need(api.KindOpen)
	n := d.attribute(op)
	d.need(api.KindClose)
	return n
}

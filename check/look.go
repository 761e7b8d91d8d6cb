package check

import "sluice/api"

// look: what is wrong with the node at a place of a tree.
type look func(t []api.Node, at int) api.Errno

// walk: the first node of a tree, in the order of the list, at which a look finds something wrong, and what it is. Behind all of them the root is asked whether it is a truth, or a number, as it should be.
func walk(t []api.Node, truth bool, find look) (int, api.Errno) {
	for at := range t {
		if code := find(t, at); code != api.OK {
			return at, code
		}
	}
	if len(t) > 0 && IsTruth(t) != truth {
		return len(t) - 1, api.ErrKind
	}
	return 0, api.OK
}

// lookFor: the look at the nodes of a tree of the query, over the items of its variables; may: can a node with that operator mention an item's variable there?
func (c checker) lookFor(may func(api.Op, api.Item) bool) look {
	return func(t []api.Node, at int) api.Errno {
		n := t[at]
		if !isBare(n.Op) && !isAggregate(n.Op) {
			return kinds(t, n)
		}
		number, there := c.items[n.Var]
		if !there {
			return api.ErrNoVar
		}
		item := c.query.Items[number]
		if n.Op != api.OpCount && !hasAttr(c.schema, item, n.Attr) {
			return api.ErrNoAttr
		}
		if !may(n.Op, item) {
			return api.ErrUse
		}
		return api.OK
	}
}

// kinds: are the node's operands truths, or numbers, as its operator asks?
func kinds(t []api.Node, n api.Node) api.Errno {
	for _, operand := range [2]int{n.A, n.B} {
		if operand >= 0 && isTruth(t[operand].Op) != joins(n.Op) {
			return api.ErrKind
		}
	}
	return api.OK
}

// mayAsk: can a node of Where mention the item's variable?
func mayAsk(op api.Op, i api.Item) bool {
	if isAggregate(op) {
		return !i.Neg
	}
	return op != api.OpPrev || isRepeated(i)
}

// mayReturn: can a node of a result mention the item's variable? There each variable that is said barely stands for one event.
func mayReturn(op api.Op, i api.Item) bool {
	return mayAsk(op, i) && (isAggregate(op) || isSingle(i))
}

package code

import (
	"sluice/api"
	"sluice/show"
)

// itemsOf: by variable the number of its item, which is the first one that has it.
func itemsOf(q api.Query) map[string]int {
	out := make(map[string]int, len(q.Items))
	for i, item := range q.Items {
		if _, there := out[item.Var]; !there {
			out[item.Var] = i
		}
	}
	return out
}

// isRunnable: is the tree well shaped, is each variable an item's, and do the kinds fit?
func isRunnable(items map[string]int, t []api.Node) bool {
	if !show.Tree(t) {
		return false
	}
	for _, n := range t {
		if !kindsFit(t, n) {
			return false
		}
		if _, there := items[n.Var]; isMention(n.Op) && !there {
			return false
		}
	}
	return true
}

// kindsFit: are the node's operands truths, or numbers, as its operator asks?
func kindsFit(t []api.Node, n api.Node) bool {
	for _, operand := range [2]int{n.A, n.B} {
		if operand >= 0 && isTruth(t[operand].Op) != joins(n.Op) {
			return false
		}
	}
	return true
}

// isTruth: is a node with that operator a truth, else a number?
func isTruth(op api.Op) bool {
	return op == api.OpTrue || op == api.OpFalse || joins(op) || op >= api.OpEq && op <= api.OpGe
}

// joins: does the operator work on truths? Every other one that has operands works on numbers.
func joins(op api.Op) bool { return op == api.OpNot || op == api.OpAnd || op == api.OpOr }

// isMention: does a node with that operator mention a variable?
func isMention(op api.Op) bool { return op >= api.OpAttr && op <= api.OpPrev }

// literal: the number that a node says by itself. (One that is neither a number nor TRUE has the N 0 in a well shaped tree.)
func literal(n api.Node) int64 {
	if n.Op == api.OpTrue {
		return 1
	}
	return n.N
}

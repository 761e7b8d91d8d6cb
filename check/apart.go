package check

import (
	"slices"

	"sluice/api"
	"sluice/show"
)

// isPlace: is it a well shaped tree, and the number one of its places?
func isPlace(t []api.Node, at int) bool { return at >= 0 && at < len(t) && show.Tree(t) }

// begin: where the subtree of a place of a well shaped tree begins: with the node itself, or where that of its left operand begins.
func begin(t []api.Node, root int) int {
	at := root
	for t[at].A >= 0 {
		at = t[at].A
	}
	return at
}

// shifted: an operand's place in a list that begins with the place first. One that is not there stays so.
func shifted(operand, first int) int {
	if operand < 0 {
		return operand
	}
	return operand - first
}

// topmost: the roots of a well shaped tree's conjuncts. Operands stand ahead of their operator, so that going back from the root each node is known to be topmost or not when it is come to, however deep the ANDs lie.
func topmost(t []api.Node) []int {
	top := make([]bool, len(t))
	top[len(t)-1] = true
	var out []int
	for at := len(t) - 1; at >= 0; at-- {
		switch {
		case !top[at]:
		case t[at].Op == api.OpAnd:
			top[t[at].A], top[t[at].B] = true, true
		default:
			out = append(out, at)
		}
	}
	slices.Reverse(out)
	return out
}

// itemsOf: by variable the number of its item, which is the first one that has it.
func itemsOf(q api.Query) map[string]int {
	out := make(map[string]int, len(q.Items))
	for i, item := range q.Items {
		if _, there := out[item.Var]; !there {
			out[item.Var] = i
		}
	}
	return out
}

// usesOf: what nodes mention of the items that the variables have.
func usesOf(items map[string]int, t []api.Node) api.Use {
	var u api.Use
	for _, n := range t {
		item, there := items[n.Var]
		if !there {
			continue
		}
		if isBare(n.Op) {
			u.Bare = append(u.Bare, item)
		}
		if n.Op == api.OpPrev {
			u.Prev = append(u.Prev, item)
		}
		if isAggregate(n.Op) {
			u.Agg = append(u.Agg, item)
		}
	}
	return api.Use{Bare: rising(u.Bare), Prev: rising(u.Prev), Agg: rising(u.Agg)}
}

// rising: the list in its order, each number once.
func rising(list []int) []int {
	slices.Sort(list)
	return slices.Compact(list)
}

package show

import (
	"sluice/api"
	"sluice/event"
)

// none: the place of an operand that is not there.
const none = -1

// beginOf: where the subtree of a node begins that stands behind others, whose subtrees begin at the places begins; and whether it is of a kind that can stand there. A node is held as a whole against the one of its kind, so that no cell is left out.
func beginOf(n api.Node, begins []int) (int, bool) {
	at := len(begins)
	switch {
	case n.Op == api.OpNum:
		return at, n.N >= 0 && n == api.Node{Op: n.Op, N: n.N, A: none, B: none}
	case n.Op == api.OpTrue || n.Op == api.OpFalse:
		return at, n == api.Node{Op: n.Op, A: none, B: none}
	case n.Op == api.OpCount:
		return at, event.IsName(n.Var) && n == api.Node{Op: n.Op, Var: n.Var, A: none, B: none}
	case n.Op == api.OpAttr || n.Op >= api.OpSum && n.Op <= api.OpPrev:
		return at, event.IsName(n.Var) && event.IsName(n.Attr) && n == api.Node{Op: n.Op, Var: n.Var, Attr: n.Attr, A: none, B: none}
	case at > 0 && (n.Op == api.OpNeg || n.Op == api.OpNot):
		return begins[at-1], n == api.Node{Op: n.Op, A: at - 1, B: none}
	case at > 0 && begins[at-1] > 0 && n.Op >= api.OpAdd && n.Op <= api.OpOr:
		left := begins[at-1] - 1
		return begins[left], n == api.Node{Op: n.Op, A: left, B: at - 1}
	}
	return 0, false
}

func isItem(i api.Item) bool {
	return len(i.Types) > 0 && every(i.Types, event.IsName) && event.IsName(i.Var) && areBounds(i)
}

func areBounds(i api.Item) bool {
	if i.Neg {
		return i.Lo == 1 && i.Hi == 1
	}
	return i.Lo >= 0 && i.Hi >= 0
}

func isMode(m api.Mode) bool { return m >= api.ModeAny && m <= api.ModeStrict }

func isAfter(a api.After) bool { return a >= api.AfterAll && a <= api.AfterOnce }

func every[T any](list []T, good func(T) bool) bool {
	for _, x := range list {
		if !good(x) {
			return false
		}
	}
	return true
}

// parts: how many types and nodes a query has. Each is a token of its own at least, so that a query with too many of them need not be written to be found too big.
func parts(q api.Query) int {
	n := len(q.Where)
	for _, i := range q.Items {
		n += len(i.Types)
	}
	for _, t := range q.Ret {
		n += len(t)
	}
	return n
}

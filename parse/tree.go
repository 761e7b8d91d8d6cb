package parse

import "sluice/api"

// none: the place of an operand that is not there.
const none = -1

// tree: the nodes in post order, and the place of each one's own token.
type tree struct {
	nodes []api.Node
	spots []int
}

func (t *tree) add(at int, n api.Node) {
	t.nodes = append(t.nodes, n)
	t.spots = append(t.spots, at)
}

// root: the place of what was read last, which is the root of all that it stands over.
func (t *tree) root() int { return len(t.nodes) - 1 }

// operator: that of a token between two operands. The signs' kinds stand in the order of the operators.
func operator(k api.Kind) api.Op {
	switch k {
	case api.KindAnd:
		return api.OpAnd
	case api.KindOr:
		return api.OpOr
	}
	return api.OpAdd + api.Op(k-api.KindPlus)
}

// aggregateOf: the keywords of SUM to PREV stand in the order of their operators.
func aggregateOf(k api.Kind) api.Op { return api.OpSum + api.Op(k-api.KindSum) }

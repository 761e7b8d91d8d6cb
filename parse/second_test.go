package parse_test

import (
	"slices"

	"sluice/api"
)

// A second reading of tokens that derive: trees by two stacks, queries by cutting at keywords.

// waiting: an operator whose last operand is not yet whole, or an opening bracket (level 0).
type waiting struct {
	level int
	op    api.Op
	at    int
}

// yard: the operators that wait and the roots that no operator has taken.
type yard struct {
	nodes []api.Node
	spots []int
	wait  []waiting
	roots []int
}

func (y *yard) put(n api.Node, at int) {
	y.roots = append(y.roots, len(y.nodes))
	y.nodes = append(y.nodes, n)
	y.spots = append(y.spots, at)
}

func (y *yard) pull() int {
	last := y.roots[len(y.roots)-1]
	y.roots = y.roots[:len(y.roots)-1]
	return last
}

// settle ends the operators that bind at least as strongly as the level.
func (y *yard) settle(level int) {
	for len(y.wait) > 0 && y.wait[len(y.wait)-1].level >= level {
		w := y.wait[len(y.wait)-1]
		y.wait = y.wait[:len(y.wait)-1]
		n := api.Node{Op: w.op, B: -1}
		if w.op != api.OpNot && w.op != api.OpNeg {
			n.B = y.pull()
		}
		n.A = y.pull()
		y.put(n, w.at)
	}
}

var levels = map[api.Kind]waiting{
	api.KindOr: {level: 1, op: api.OpOr}, api.KindAnd: {level: 2, op: api.OpAnd},
	api.KindEq: {level: 4, op: api.OpEq}, api.KindNe: {level: 4, op: api.OpNe}, api.KindLt: {level: 4, op: api.OpLt}, api.KindLe: {level: 4, op: api.OpLe}, api.KindGt: {level: 4, op: api.OpGt}, api.KindGe: {level: 4, op: api.OpGe},
	api.KindPlus: {level: 5, op: api.OpAdd}, api.KindMinus: {level: 5, op: api.OpSub},
	api.KindStar: {level: 6, op: api.OpMul}, api.KindSlash: {level: 6, op: api.OpDiv}, api.KindPercent: {level: 6, op: api.OpMod},
}

var leaves = map[api.Kind]struct {
	op     api.Op
	tokens int // how many it takes
}{
	api.KindNumber: {api.OpNum, 1}, api.KindTrue: {api.OpTrue, 1}, api.KindFalse: {api.OpFalse, 1}, api.KindName: {api.OpAttr, 3}, api.KindCount: {api.OpCount, 4},
	api.KindSum: {api.OpSum, 6}, api.KindMin: {api.OpMin, 6}, api.KindMax: {api.OpMax, 6}, api.KindFirst: {api.OpFirst, 6}, api.KindLast: {api.OpLast, 6}, api.KindPrev: {api.OpPrev, 6},
}

func treeOf(tokens []api.Token) ([]api.Node, []int) {
	var y yard
	operand := true
	for i := 0; i < len(tokens); i++ {
		t := tokens[i]
		switch l, ok := leaves[t.Kind]; {
		case ok:
			n := leaf(l.op, namesOf(tokens[i:i+l.tokens])...)
			n.N = t.N
			y.put(n, t.At)
			i += l.tokens - 1
			operand = false
		case t.Kind == api.KindOpen:
			y.wait = append(y.wait, waiting{})
		case t.Kind == api.KindClose:
			y.settle(1)
			y.wait = y.wait[:len(y.wait)-1]
		case t.Kind == api.KindNot:
			y.wait = append(y.wait, waiting{3, api.OpNot, t.At})
		case t.Kind == api.KindMinus && operand:
			y.wait = append(y.wait, waiting{7, api.OpNeg, t.At})
		default:
			w := levels[t.Kind]
			y.settle(w.level)
			y.wait = append(y.wait, waiting{w.level, w.op, t.At})
			operand = true
		}
	}
	y.settle(1)
	return y.nodes, y.spots
}

func namesOf(tokens []api.Token) []string {
	var out []string
	for _, t := range tokens {
		if t.Kind == api.KindName {
			out = append(out, t.Text)
		}
	}
	return out
}

// cut: the tokens in rows, parted at those of a kind.
func cut(tokens []api.Token, kind api.Kind) [][]api.Token {
	out := [][]api.Token{nil}
	for _, t := range tokens {
		if t.Kind == kind {
			out = append(out, nil)
			continue
		}
		out[len(out)-1] = append(out[len(out)-1], t)
	}
	return out
}

func queryFrom(tokens []api.Token) (api.Query, api.Spots) {
	var q api.Query
	var s api.Spots
	heads := []api.Kind{api.KindUsing, api.KindAfter, api.KindWhere, api.KindWithin, api.KindPartition, api.KindReturn}
	clauses := map[api.Kind][]api.Token{}
	head := api.KindSeq
	for _, t := range tokens[2:] {
		if slices.Contains(heads, t.Kind) {
			head = t.Kind
			continue
		}
		clauses[head] = append(clauses[head], t)
	}
	seq := clauses[api.KindSeq]
	q.Items, s.Items = itemsFrom(seq[1 : len(seq)-1])
	if word := clauses[api.KindUsing]; len(word) > 0 {
		q.Mode = map[api.Kind]api.Mode{api.KindAny: api.ModeAny, api.KindNext: api.ModeNext, api.KindStrict: api.ModeStrict}[word[0].Kind]
	}
	if word := clauses[api.KindAfter]; len(word) > 0 {
		q.After = map[api.Kind]api.After{api.KindAll: api.AfterAll, api.KindNext: api.AfterNext, api.KindPast: api.AfterPast, api.KindOnce: api.AfterOnce}[word[0].Kind]
	}
	q.Where, s.Where = treeOf(clauses[api.KindWhere])
	q.Within, s.Within = clauses[api.KindWithin][0].N, clauses[api.KindWithin][0].At
	if by := clauses[api.KindPartition]; len(by) > 0 {
		q.By, s.By = by[1].Text, by[1].At
	}
	if results := clauses[api.KindReturn]; len(results) > 0 {
		for _, row := range cut(results, api.KindComma) {
			nodes, spots := treeOf(row)
			q.Ret, s.Ret = append(q.Ret, nodes), append(s.Ret, spots)
		}
	}
	return q, s
}

func itemsFrom(tokens []api.Token) ([]api.Item, []int) {
	var items []api.Item
	var spots []int
	for _, row := range cut(tokens, api.KindComma) {
		if row[0].Kind == api.KindNumber { // behind the comma of braces
			items[len(items)-1].Hi = int(row[0].N)
			continue
		}
		names := namesOf(row)
		it := item(names[len(names)-1], 1, 1, names[:len(names)-1]...)
		it.Neg = row[0].Kind == api.KindBang
		for _, t := range row {
			switch t.Kind {
			case api.KindPlus:
				it.Hi = 4
			case api.KindNumber:
				it.Lo = int(t.N)
			}
		}
		items, spots = append(items, it), append(spots, row[0].At)
	}
	return items, spots
}

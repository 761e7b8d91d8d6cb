package show_test

import (
	"fmt"
	"strings"

	"sluice/api"
)

// A second printing: the words of a term or a query, as few as may be, or with some that say nothing more.

var levels = map[api.Op]int{
	api.OpOr: 1, api.OpAnd: 2, api.OpNot: 3, api.OpEq: 4, api.OpNe: 4, api.OpLt: 4, api.OpLe: 4, api.OpGt: 4, api.OpGe: 4,
	api.OpAdd: 5, api.OpSub: 5, api.OpMul: 6, api.OpDiv: 6, api.OpMod: 6, api.OpNeg: 7,
}

// needs: by the operator's level what its operands must have.
var needs = map[int][]int{1: {1, 2}, 2: {2, 3}, 3: {3}, 4: {5, 5}, 5: {5, 6}, 6: {6, 7}, 7: {7}}

func levelOf(op api.Op) int {
	if l, ok := levels[op]; ok {
		return l
	}
	return 8
}

// never: nothing is said that need not be.
func never() bool { return false }

// wordsOf: the term where an operand of that level is needed; in more brackets than it needs where more says so.
func wordsOf(x term, needed int, more func() bool) string {
	out := plain(x)
	if len(x.parts) > 0 {
		var operands []string
		for i, p := range x.parts {
			operands = append(operands, wordsOf(p, needs[levelOf(x.op)][i], more))
		}
		if len(operands) == 1 {
			operands = append([]string{""}, operands...)
		}
		out = strings.TrimSpace(operands[0] + " " + spellings[x.op] + " " + operands[1])
	}
	if levelOf(x.op) < needed || more() {
		out = "( " + out + " )"
	}
	return out
}

// asked: a query with its expressions as terms.
type asked struct {
	api.Query
	where []term // none or one
	ret   []term
}

func (a asked) query() api.Query {
	q := a.Query
	for _, x := range a.where {
		q.Where = nodes(x)
	}
	for _, x := range a.ret {
		q.Ret = append(q.Ret, nodes(x))
	}
	return q
}

func (a asked) words(more func() bool) string {
	var items []string
	for _, i := range a.Items {
		items = append(items, itemWords(i, more))
	}
	out := "PATTERN SEQ ( " + strings.Join(items, " , ") + " )"
	if mode := []string{"ANY", "NEXT", "STRICT"}[a.Mode]; a.Mode != api.ModeAny || more() {
		out += " USING " + mode
	}
	if after := []string{"ALL", "NEXT", "PAST", "ONCE"}[a.After]; a.After != api.AfterAll || more() {
		out += " AFTER " + after
	}
	for _, x := range a.where {
		out += " WHERE " + wordsOf(x, 0, more)
	}
	out += " WITHIN " + fmt.Sprint(a.Within)
	if a.By != "" {
		out += " PARTITION BY " + a.By
	}
	sep := " RETURN "
	for _, x := range a.ret {
		out += sep + wordsOf(x, 0, more)
		sep = " , "
	}
	return out
}

func itemWords(i api.Item, more func() bool) string {
	out := strings.Join(i.Types, " | ")
	if len(i.Types) > 1 || more() {
		out = "( " + out + " )"
	}
	switch {
	case i.Neg:
		return "! " + out + " " + i.Var
	case i.Lo == 1 && i.Hi == 1 && !more():
		return out + " " + i.Var
	case i.Lo == 1 && i.Hi == 4 && !more():
		return out + " + " + i.Var
	}
	return fmt.Sprintf("%s %s { %d , %d }", out, i.Var, i.Lo, i.Hi)
}

// grown: a term with so many operators, picked at random; slim: how seldom an operand of two is without operators.
func grown(operators, slim int, pick func(int) int) term {
	if operators == 0 {
		return grownLeaf(pick)
	}
	if pick(4) == 0 {
		return of(unary[pick(2)], grown(operators-1, slim, pick))
	}
	left := pick(operators)
	if pick(slim) > 0 {
		left = (operators - 1) * pick(2)
	}
	return of(binary[pick(len(binary))], grown(left, slim, pick), grown(operators-1-left, slim, pick))
}

func grownLeaf(pick func(int) int) term {
	v, attr := names[pick(len(names))], names[pick(len(names))]
	switch pick(5) {
	case 0:
		return num(int64(pick(1000)))
	case 1:
		return leaf(api.OpTrue + api.Op(pick(2)))
	case 2:
		return leaf(api.OpCount, v)
	case 3:
		return leaf(api.OpSum+api.Op(pick(6)), v, attr)
	}
	return leaf(api.OpAttr, v, attr)
}

// grownQuery: with expressions of up to so many operators.
func grownQuery(operators int, pick func(int) int) asked {
	var a asked
	for range 1 + pick(4) {
		a.Items = append(a.Items, grownItem(pick))
	}
	a.Mode, a.After, a.Within = api.Mode(pick(3)), api.After(pick(4)), int64(pick(5))
	if pick(8) == 0 {
		a.Within = 1<<63 - 1
	}
	if pick(2) == 0 {
		a.By = names[pick(len(names))]
	}
	if pick(2) == 0 {
		a.where = []term{grown(pick(operators+1), 2, pick)}
	}
	for range pick(3) {
		a.ret = append(a.ret, grown(pick(operators+1), 2, pick))
	}
	return a
}

func grownItem(pick func(int) int) api.Item {
	bounds := [][2]int{{1, 1}, {1, 4}, {1, 1}, {1, 4}, {0, 0}, {9, 2}, {4, 1}, {2, 3}, {1<<63 - 1, 0}}[pick(9)]
	i := api.Item{Neg: pick(3) == 0, Var: names[pick(len(names))], Lo: bounds[0], Hi: bounds[1]}
	for range 1 + pick(3) {
		i.Types = append(i.Types, names[pick(len(names))])
	}
	if i.Neg {
		i.Lo, i.Hi = 1, 1
	}
	return i
}

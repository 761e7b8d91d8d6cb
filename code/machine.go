package code

import (
	"sluice/api"
	"sluice/num"
)

// shallow: as many values lie on the stack of nearly every program; for those no further memory is asked for.
const shallow = 16

// operands: by Code how many values an instruction needs on the stack.
var operands = [...]int{
	api.CodePush:  0,
	api.CodeLoad:  0,
	api.CodePrev:  0,
	api.CodeCount: 0,
	api.CodeSum:   0,
	api.CodeMin:   0,
	api.CodeMax:   0,
	api.CodeFirst: 0,
	api.CodeLast:  0,
	api.CodeNeg:   1,
	api.CodeNot:   1,
	api.CodeAdd:   2,
	api.CodeSub:   2,
	api.CodeMul:   2,
	api.CodeDiv:   2,
	api.CodeMod:   2,
	api.CodeEq:    2,
	api.CodeNe:    2,
	api.CodeLt:    2,
	api.CodeLe:    2,
	api.CodeGt:    2,
	api.CodeGe:    2,
	api.CodeAnd:   2,
	api.CodeOr:    2,
	api.CodeIfNo:  1,
	api.CodeIfYes: 1,
}

// isReady: is there an instruction of that Code (none has the 0), and are its operands on a stack of so many values?
func isReady(c api.Code, values int) bool {
	return c > 0 && int(c) < len(operands) && operands[c] <= values
}

// jumps: does a CodeIfNo or a CodeIfYes go to its To, with that value on top?
func jumps(c api.Code, top api.Val) bool {
	return top.Known && num.True(top) == (c == api.CodeIfYes)
}

// opOf: the operator of an instruction that reads an attribute, or has two operands.
func opOf(c api.Code) api.Op {
	switch {
	case c == api.CodeLoad:
		return api.OpAttr
	case c == api.CodePrev:
		return api.OpPrev
	case c <= api.CodeLast:
		return api.OpSum + api.Op(c-api.CodeSum)
	}
	return api.OpAdd + api.Op(c-api.CodeAdd)
}

// column: by type the place of an attribute.
type column []int

// place: that of a type, which the column need not have.
func (c column) place(typ int) int {
	if typ < 0 || typ >= len(c) {
		return api.ColNone
	}
	return c[typ]
}

// Package num: checked arithmetic on int64, and truths that may be unknown: see doc/01-num.md.
package num

import (
	"slices"

	"sluice/api"
)

// Add: a + b.
func Add(a, b api.Val) api.Val {
	if !both(a, b) {
		return api.Val{}
	}
	return widen(a.N).plus(widen(b.N)).narrow()
}

// Sub: a - b.
func Sub(a, b api.Val) api.Val {
	if !both(a, b) {
		return api.Val{}
	}
	return widen(a.N).minus(widen(b.N)).narrow()
}

// Mul: a * b.
func Mul(a, b api.Val) api.Val {
	if !both(a, b) {
		return api.Val{}
	}
	return product(a.N, b.N).narrow()
}

// Div: a / b, cut off towards 0.
func Div(a, b api.Val) api.Val {
	if !both(a, b) || b.N == 0 {
		return api.Val{}
	}
	if b.N == -1 {
		// The one divisor by which a quotient can leave int64: Go would wrap it round.
		return Neg(a)
	}
	return known(a.N / b.N)
}

// Mod: what Div leaves.
func Mod(a, b api.Val) api.Val {
	if !both(a, b) || b.N == 0 {
		return api.Val{}
	}
	return known(a.N % b.N)
}

// Neg: -a.
func Neg(a api.Val) api.Val { return Sub(known(0), a) }

// Compare: a and b by one of the operators OpEq .. OpGe.
func Compare(op api.Op, a, b api.Val) api.Val {
	if !both(a, b) {
		return api.Val{}
	}
	switch op {
	case api.OpEq:
		return truthOf(a.N == b.N).val()
	case api.OpNe:
		return truthOf(a.N != b.N).val()
	case api.OpLt:
		return truthOf(a.N < b.N).val()
	case api.OpLe:
		return truthOf(a.N <= b.N).val()
	case api.OpGt:
		return truthOf(a.N > b.N).val()
	case api.OpGe:
		return truthOf(a.N >= b.N).val()
	}
	return api.Val{}
}

// And: the strong conjunction.
func And(a, b api.Val) api.Val { return andTable[read(a)][read(b)].val() }

// Or: the strong disjunction.
func Or(a, b api.Val) api.Val { return orTable[read(a)][read(b)].val() }

// Not: the other truth.
func Not(a api.Val) api.Val { return notTable[read(a)].val() }

// Apply: a binary operator of an expression, OpAdd .. OpOr.
func Apply(op api.Op, a, b api.Val) api.Val {
	switch op {
	case api.OpAdd:
		return Add(a, b)
	case api.OpSub:
		return Sub(a, b)
	case api.OpMul:
		return Mul(a, b)
	case api.OpDiv:
		return Div(a, b)
	case api.OpMod:
		return Mod(a, b)
	case api.OpAnd:
		return And(a, b)
	case api.OpOr:
		return Or(a, b)
	}
	return Compare(op, a, b)
}

// Fold: an aggregate of numbers: OpCount .. OpLast.
func Fold(op api.Op, l []int64) api.Val {
	switch op {
	case api.OpCount:
		return known(int64(len(l)))
	case api.OpSum:
		return total(l).narrow()
	}
	if len(l) == 0 {
		return api.Val{}
	}
	switch op {
	case api.OpMin:
		return known(slices.Min(l))
	case api.OpMax:
		return known(slices.Max(l))
	case api.OpFirst:
		return known(l[0])
	case api.OpLast:
		return known(l[len(l)-1])
	}
	return api.Val{}
}

// True: is it known and not 0?
func True(a api.Val) bool { return read(a) == yes }

func known(n int64) api.Val { return api.Val{Known: true, N: n} }

func both(a, b api.Val) bool { return a.Known && b.Known }

package num

import (
	"math/bits"

	"sluice/api"
)

// wide is a whole number of 128 bits in two's complement. No sum, difference or product of two int64 leaves it, nor the sum of any list that a machine can hold: so it is always the true result, and only narrow has to ask whether it fits.
type wide struct {
	hi, lo uint64
}

func widen(n int64) wide { return wide{hi: uint64(n >> 63), lo: uint64(n)} }

func (w wide) plus(v wide) wide {
	lo, carry := bits.Add64(w.lo, v.lo, 0)
	hi, _ := bits.Add64(w.hi, v.hi, carry)
	return wide{hi: hi, lo: lo}
}

func (w wide) minus(v wide) wide {
	lo, borrow := bits.Sub64(w.lo, v.lo, 0)
	hi, _ := bits.Sub64(w.hi, v.hi, borrow)
	return wide{hi: hi, lo: lo}
}

// product corrects the high half of the unsigned product: a negative factor n was taken there as n + 2^64.
func product(a, b int64) wide {
	hi, lo := bits.Mul64(uint64(a), uint64(b))
	if a < 0 {
		hi -= uint64(b)
	}
	if b < 0 {
		hi -= uint64(a)
	}
	return wide{hi: hi, lo: lo}
}

func total(l []int64) wide {
	var sum wide
	for _, n := range l {
		sum = sum.plus(widen(n))
	}
	return sum
}

// narrow: the number as a value, unknown if it does not fit into int64.
func (w wide) narrow() api.Val {
	n := int64(w.lo)
	if widen(n) != w {
		return api.Val{}
	}
	return known(n)
}

package due

import (
	"slices"

	"sluice/api"
)

// kept: a match that waits, in memory that nobody else has.
type kept struct {
	api.Waiting
	earlier *kept // the one of the same digest that was added ahead of it
}

// hasLike: is this one, or one of those that hang on it, alike to a match of the same digest? The digest has the Decide, so that it is not asked again.
func (k *kept) hasLike(w api.Waiting) bool {
	for ; k != nil; k = k.earlier {
		if slices.Equal(k.Names, w.Names) && slices.Equal(k.Lens, w.Lens) {
			return true
		}
	}
	return false
}

// place: where a match lies on the pile. The pile wants an order on places; what is kept has its match's, which is one on matches.
type place struct{ *kept }

// Before: by the matches.
func (p place) Before(q place) bool { return p.kept.Before(q.Waiting) }

// digest: what alike matches have in common, short enough to be looked up. Unlike ones may have it in common too, but only if they are decided at the same time: so those of one digest leave together.
type digest struct {
	decide int64
	sum    uint64
}

func digestOf(w api.Waiting) digest {
	var sum uint64
	for _, n := range w.Names {
		sum = stir(stir(sum, uint64(n.Ts)), n.Id)
	}
	for _, n := range w.Lens {
		sum = stir(sum, uint64(n))
	}
	return digest{w.Decide, sum}
}

// stir adds a number to a sum in which the numbers' order counts too; it wraps round.
func stir(sum, n uint64) uint64 {
	sum = (sum + n + 1) * 0x9E3779B97F4A7C15
	return sum ^ sum>>32
}

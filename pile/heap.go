package pile

import "sluice/api"

// laid: a thing on a pile, with its turn among even ones.
type laid[T api.Ranked[T]] struct {
	thing T
	turn  int
}

// ahead: does x stand ahead of y? The earlier one of two does unless the later one is before it, so that one question is enough.
func (x laid[T]) ahead(y laid[T]) bool {
	if x.turn < y.turn {
		return !isBefore(y.thing, x.thing)
	}
	return isBefore(x.thing, y.thing)
}

// isBefore: no call panics, whatever type the things are of: where Before itself panics (as that of a nil pointer may), x is not before y.
func isBefore[T api.Ranked[T]](x, y T) (yes bool) {
	defer func() { recover() }()
	return x.Before(y)
}

// In the heap no thing stands ahead of the one above it: those below the place i are at 2i + 1 and 2i + 2.

// siftUp moves a thing that may be too low up to its place.
func (p *Pile[T]) siftUp(at int) {
sift:
	above := (at - 1) / 2
	if at == 0 || !p.heap[at].ahead(p.heap[above]) {
		return
	}
	p.exchange(at, above)
	at = above
	goto sift
}

// siftDown moves a thing that may be too high down to its place.
func (p *Pile[T]) siftDown(at int) {
sift:
	below := p.firstBelow(at)
	if below == at || !p.heap[below].ahead(p.heap[at]) {
		return
	}
	p.exchange(at, below)
	at = below
	goto sift
}

// firstBelow: the place of the first one of the things right below a place; where there is none, the place itself.
func (p *Pile[T]) firstBelow(at int) int {
	left, right := 2*at+1, 2*at+2
	switch {
	case left >= len(p.heap):
		return at
	case right < len(p.heap) && p.heap[right].ahead(p.heap[left]):
		return right
	}
	return left
}

func (p *Pile[T]) exchange(i, j int) { p.heap[i], p.heap[j] = p.heap[j], p.heap[i] }

// cutTop lays the last thing in the first one's place. The room that falls free is emptied, so that what was popped is not kept.
func (p *Pile[T]) cutTop() {
	last := len(p.heap) - 1
	p.heap[0] = p.heap[last]
	p.heap[last] = laid[T]{}
	p.heap = p.heap[:last]
}

package pile_test

import (
	"slices"
	"testing"

	"sluice/api"
	"sluice/pile"
)

// plain: a second pile: a list of things in the order in which they were laid down, which is looked through each time.
type plain[T api.Ranked[T]] struct{ held []T }

func (p *plain[T]) push(x T) { p.held = append(p.held, x) }

// first: the place of the first thing: no other one is before it, and it was laid down the earliest of such.
func (p *plain[T]) first() int {
	return slices.IndexFunc(p.held, func(x T) bool {
		return !slices.ContainsFunc(p.held, func(y T) bool { return y.Before(x) })
	})
}

func (p *plain[T]) peek() (T, bool) {
	at := p.first()
	if at < 0 {
		var zero T
		return zero, false
	}
	return p.held[at], true
}

func (p *plain[T]) pop() (T, bool) {
	x, ok := p.peek()
	if ok {
		at := p.first()
		p.held = slices.Delete(p.held, at, at+1)
	}
	return x, ok
}

func (p *plain[T]) sorted() []T { return stable(p.held) }

// stable: a plain sort that keeps the order of even ones.
func stable[T api.Ranked[T]](l []T) []T {
	l = slices.Clone(l)
	slices.SortStableFunc(l, func(x, y T) int {
		if x.Before(y) {
			return -1
		}
		if y.Before(x) {
			return 1
		}
		return 0
	})
	return l
}

// of: a pile on which a list was laid down.
func of[T api.Ranked[T]](l ...T) *pile.Pile[T] {
	p := pile.New[T]()
	for _, x := range l {
		p.Push(x)
	}
	return p
}

// drained: what a pile answers until there is nothing.
func drained[T api.Ranked[T]](p *pile.Pile[T]) []T {
	var out []T
	for {
		x, ok := p.Pop()
		if !ok {
			return out
		}
		out = append(out, x)
	}
}

// nothing: does the pile answer as an empty one does?
func nothing[T api.Ranked[T]](t *testing.T, where string, p *pile.Pile[T]) {
	t.Helper()
	var zero T
	for range 2 {
		if x, ok := p.Peek(); ok || told(x) != told(zero) {
			t.Errorf("%s: Peek of an empty pile: %+v, %v", where, x, ok)
		}
		if x, ok := p.Pop(); ok || told(x) != told(zero) {
			t.Errorf("%s: Pop of an empty pile: %+v, %v", where, x, ok)
		}
		if p.Len() != 0 || len(p.Sorted()) != 0 {
			t.Errorf("%s: an empty pile holds %d things: %+v", where, p.Len(), p.Sorted())
		}
	}
}

// holds: does the pile hold what the second one does, in their order? It is asked all that changes nothing.
func holds[T api.Ranked[T]](t *testing.T, where string, p *pile.Pile[T], want *plain[T]) {
	t.Helper()
	if p.Len() != len(want.held) {
		t.Fatalf("%s: Len is %d, want %d", where, p.Len(), len(want.held))
	}
	x, ok := p.Peek()
	if y, wanted := want.peek(); ok != wanted || told(x) != told(y) {
		t.Fatalf("%s: Peek: %+v, %v, want %+v, %v", where, x, ok, y, wanted)
	}
	if got := p.Sorted(); !same(got, want.sorted()) {
		t.Fatalf("%s: Sorted: %+v, want %+v", where, got, want.sorted())
	}
}

// pops: do both piles answer Pop alike?
func pops[T api.Ranked[T]](t *testing.T, where string, p *pile.Pile[T], want *plain[T]) {
	t.Helper()
	x, ok := p.Pop()
	if y, wanted := want.pop(); ok != wanted || told(x) != told(y) {
		t.Fatalf("%s: Pop: %+v, %v, want %+v, %v", where, x, ok, y, wanted)
	}
}

package shard

import (
	"math"
	"slices"

	"sluice/api"
	"sluice/pile"
)

// used: the names by which matches of one partition are passed over: in a map, to be asked, and in a pile, from which the oldest drop out.
type used struct {
	after api.After
	names map[api.Name]struct{}
	pile  *pile.Pile[api.Name]
}

func newUsed(after api.After) *used {
	return &used{after: after, names: map[api.Name]struct{}{}, pile: pile.New[api.Name]()}
}

// passesOver: is the match passed over, behind those that have been told?
func (u *used) passesOver(m api.Match) bool {
	switch u.after {
	case api.AfterNext:
		return u.has(m.Names[0])
	case api.AfterPast:
		last, ok := u.pile.Peek() // the only one there is
		return ok && !last.Before(m.Names[0])
	case api.AfterOnce:
		return slices.ContainsFunc(m.Names, u.has)
	}
	return false
}

// note: the match is told.
func (u *used) note(m api.Match) {
	switch u.after {
	case api.AfterNext:
		u.add(m.Names[0])
	case api.AfterPast:
		u.drop(math.MaxInt64)
		u.add(m.Names[len(m.Names)-1])
	case api.AfterOnce:
		for _, n := range m.Names {
			u.add(n)
		}
	}
}

func (u *used) has(n api.Name) bool {
	_, ok := u.names[n]
	return ok
}

// add: none is added twice, since its match would have been passed over.
func (u *used) add(n api.Name) {
	u.names[n] = struct{}{}
	u.pile.Push(n)
}

// drop drops the names with a timestamp at or below a bound.
func (u *used) drop(bound int64) {
	for n, ok := u.pile.Peek(); ok && n.Ts <= bound; n, ok = u.pile.Peek() {
		u.pile.Pop()
		delete(u.names, n)
	}
}

// list: the names, in their order.
func (u *used) list() []api.Name { return u.pile.Sorted() }

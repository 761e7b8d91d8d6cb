package stacks

import (
	"sort"

	"sluice/api"
)

// row: a list that grows at its end and is dropped from its beginning. Who counts its places counts those that are gone too, so that dropping leaves nothing to be written anew.
type row[T any] struct {
	left []T
	gone int // how many were dropped
}

// instance: an event in a component's stack: its place in the log, and how many of the stack ahead are before it. Both count what is gone, and the event is told from the log: it stands in memory once.
type instance struct {
	rank, prev int
}

// ever: how many there have been.
func (r row[T]) ever() int { return r.gone + len(r.left) }

func (r *row[T]) add(x T) { r.left = append(r.left, x) }

// keep drops what stands ahead of the first one that stays, and answers how many these are; behind one that stays all do. The cut ends where the list ends: so the next one that is added moves the rest into memory of its own, and what was dropped is let go. Without anything to drop the list keeps its spare room.
func (r *row[T]) keep(stays func(T) bool) int {
	first := sort.Search(len(r.left), func(i int) bool { return stays(r.left[i]) })
	if first > 0 {
		r.left = r.left[first:len(r.left):len(r.left)]
		r.gone += first
	}
	return first
}

// ahead: the stack of the component ahead of this one; ahead of the first there is none, which is as an empty one.
func (s *Stacks) ahead(comp int) row[instance] {
	if comp == 0 {
		return row[instance]{}
	}
	return s.comps[comp-1]
}

// isBehindLog: is the event behind all events of the log?
func (s *Stacks) isBehindLog(e api.Event) bool {
	n := len(s.log.left)
	return n == 0 || s.log.left[n-1].Before(e)
}

package guard

import (
	"sort"

	"sluice/api"
)

// buffer: events in the order of their names. They come at the end and are dropped from the beginning.
type buffer struct {
	events []api.Event
	gone   int // how many of the first ones are dropped
}

// left: the events that are not dropped.
func (b buffer) left() []api.Event { return b.events[b.gone:] }

func (b *buffer) add(e api.Event) { b.events = append(b.events, e) }

// isAheadOf: is each event of the buffer before this one?
func (b buffer) isAheadOf(e api.Event) bool {
	left := b.left()
	return len(left) == 0 || left[len(left)-1].Before(e)
}

// drop drops the events with a timestamp at or below the bound, and answers how many these are. Their memory is let go when they are as many as the others: so there is never much of it, and an event is moved but seldom, however many drops there are.
func (b *buffer) drop(bound int64) int {
	left := b.left()
	first := sort.Search(len(left), func(i int) bool { return left[i].Ts > bound })
	b.gone += first
	if b.gone >= len(b.left()) {
		b.events, b.gone = copied(b.left()), 0
	}
	return first
}

// copied: the list in memory of its own.
func copied(list []api.Event) []api.Event {
	out := make([]api.Event, len(list))
	copy(out, list)
	return out
}

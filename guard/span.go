package guard

import (
	"sort"

	"sluice/api"
)

// leading: the After of a negation that leads.
const leading = -1

// span: a negation's range of a binding.
type span struct {
	leads, trails bool
	start         api.Event // the range is behind it; if it leads: the binding's last event, from which the window reaches back
	end           api.Event // the range is before it; if it trails: the binding's first event, from which the window reaches on
	window        int64
}

// isPlace: is it a place in a list of that length? A plan that somebody else made may say any number.
func isPlace(at, length int) bool { return at >= 0 && at < length }

// spanOf: the range; false: there is no such negation, or the binding does not fit.
func spanOf(p api.Plan, neg int, b api.Binding) (span, bool) {
	if !isPlace(neg, len(p.Negs)) || !fits(p, b) {
		return span{}, false
	}
	after, before := p.Negs[neg].After, p.Negs[neg].Before
	s := span{leads: after == leading, trails: before == len(b), window: p.Query.Within}
	if s.leads {
		after = len(b) - 1
	}
	if s.trails {
		before = 0
	}
	if !isPlace(after, len(b)) || !isPlace(before, len(b)) {
		return span{}, false
	}
	s.start, s.end = b[after][len(b[after])-1], b[before][0]
	return s, true
}

// fits: has the binding for each component a list, and an event in each?
func fits(p api.Plan, b api.Binding) bool {
	for _, list := range b {
		if len(list) == 0 {
			return false
		}
	}
	return len(b) == len(p.Comps)
}

// isBegun: is the event at or behind the range's beginning? Of events in their order the first ones are not, and all others are.
func (s span) isBegun(e api.Event) bool {
	if s.leads {
		return isWithin(e.Ts, s.start.Ts, s.window)
	}
	return s.start.Before(e)
}

// isOver: is the event behind the range's end? Of events in their order the first ones are not, and all others are.
func (s span) isOver(e api.Event) bool {
	if s.trails {
		return !isWithin(s.end.Ts, e.Ts, s.window)
	}
	return !e.Before(s.end)
}

// cut: the part of events in their order that lies in the range.
func (s span) cut(events []api.Event) []api.Event {
	first := sort.Search(len(events), func(i int) bool { return s.isBegun(events[i]) })
	events = events[first:]
	return events[:sort.Search(len(events), func(i int) bool { return s.isOver(events[i]) })]
}

// isWithin: is a time at most the window behind an earlier one? Each of them may stand at an end of int64, where the sum and the difference may not fit; how far a later one lies behind always fits into a uint64.
func isWithin(earlier, later, window int64) bool {
	return later <= earlier || uint64(later)-uint64(earlier) <= uint64(window)
}

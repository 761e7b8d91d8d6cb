package stacks

import (
	"runtime"
	"testing"
	"weak"

	"sluice/api"
	"sluice/event"
	"sluice/parse"
	"sluice/plan"
)

// filled: stacks whose lists have so many events.
func filled(t *testing.T, n int64) *Stacks {
	t.Helper()
	schema, _, _ := event.ParseSchema("type A(x)")
	query, _, _, _ := parse.Parse("PATTERN SEQ(A a, A b, A c) WITHIN 5")
	p, flaw := plan.Build(schema, query)
	if flaw != (api.Flaw{}) {
		t.Fatalf("no plan: %+v", flaw)
	}
	s := New(p)
	for i := range n {
		s.Add(api.Event{Ts: i})
	}
	return s
}

// The section 'Ways': behind a Prune that drops something every list ends with its memory, so that the next event moves what is left.
func TestPruneCutsAtTheEnd(t *testing.T) {
	for bound := range int64(100) {
		s := filled(t, 100)
		s.Prune(bound)
		if left := int(99 - bound); len(s.log.left) != left || cap(s.log.left) != left {
			t.Errorf("Prune(%d): a log of %d events with room for %d", bound, len(s.log.left), cap(s.log.left))
		}
		for comp, stack := range s.comps {
			if left := int(99 - bound); len(stack.left) != left || cap(stack.left) != left {
				t.Errorf("Prune(%d): a stack %d of %d instances with room for %d", bound, comp, len(stack.left), cap(stack.left))
			}
		}
		s.Add(api.Event{Ts: 100})
		if left := int(100 - bound); s.Len() != left || s.Depth(2) != left {
			t.Errorf("behind Prune(%d): %d, %d", bound, s.Len(), s.Depth(2))
		}
	}
}

// The section 'Ways': the next event that comes lets go what was dropped.
func TestWhatWasDroppedIsLetGo(t *testing.T) {
	for _, bound := range []int64{0, 500, 998, 999} {
		s := filled(t, 1000)
		oldLog := weak.Make(&s.log.left[0])
		oldStack := weak.Make(&s.comps[1].left[0])
		s.Prune(bound)
		s.Add(api.Event{Ts: 1000})
		runtime.GC()
		if oldLog.Value() != nil || oldStack.Value() != nil {
			t.Errorf("behind Prune(%d): what was dropped is still in memory", bound)
		}
		runtime.KeepAlive(s)
	}
}

// A Prune that drops nothing moves nothing: the spare room of the lists stays.
func TestPruneOfNothingMovesNothing(t *testing.T) {
	s := filled(t, 100)
	s.Prune(10)
	s.Add(api.Event{Ts: 100})
	room := cap(s.log.left)
	if room == len(s.log.left) {
		t.Fatalf("no spare room: %d", room)
	}
	for bound := int64(-5); bound <= 10; bound++ {
		s.Prune(bound)
	}
	if cap(s.log.left) != room {
		t.Errorf("room for %d, was %d", cap(s.log.left), room)
	}
}

package guard

import (
	"runtime"
	"testing"
	"weak"

	"sluice/api"
	"sluice/event"
	"sluice/parse"
	"sluice/plan"
)

// filled: guards one of whose buffers has so many events.
func filled(t *testing.T, n int64) *Guards {
	t.Helper()
	schema, _, _ := event.ParseSchema("type A(x) type B(x)")
	query, _, _, _ := parse.Parse("PATTERN SEQ(A a, !B n) WITHIN 5")
	p, flaw := plan.Build(schema, query)
	if flaw != (api.Flaw{}) {
		t.Fatalf("no plan: %+v", flaw)
	}
	g := New(p)
	for i := range n {
		g.Add(api.Event{Ts: i, Type: 1})
	}
	return g
}

// Of what was dropped there is never more in memory than of what is left, so that a buffer that empties lets all go.
func TestWhatWasDroppedIsLetGo(t *testing.T) {
	for _, bound := range []int64{499, 500, 998, 999, 2000} {
		g := filled(t, 1000)
		old := weak.Make(&g.buffers[0].events[0])
		g.Prune(bound)
		runtime.GC()
		if old.Value() != nil {
			t.Errorf("behind Prune(%d): what was dropped is still in memory", bound)
		}
		runtime.KeepAlive(g)
	}
	g := filled(t, 1000)
	for bound := range int64(1001) {
		g.Prune(bound)
		if b := g.buffers[0]; b.gone > len(b.left()) {
			t.Errorf("behind Prune(%d): %d are dropped and in memory, %d are left", bound, b.gone, len(b.left()))
		}
	}
}

// Events that come and are dropped one by one are moved but seldom.
func TestFewMoves(t *testing.T) {
	g := filled(t, 1000)
	moves := 0
	for i := int64(1000); i < 11000; i++ {
		was := &g.buffers[0].events[0]
		g.Prune(i - 1000)
		g.Add(api.Event{Ts: i, Type: 1})
		if &g.buffers[0].events[0] != was {
			moves++
		}
	}
	if moves > 60 {
		t.Errorf("%d moves", moves)
	}
}

// A Prune that drops nothing moves nothing: the spare room of the buffers stays.
func TestPruneOfNothingMovesNothing(t *testing.T) {
	g := filled(t, 100)
	g.Prune(10)
	was, room := &g.buffers[0].events[0], cap(g.buffers[0].events)
	for bound := int64(-5); bound <= 10; bound++ {
		g.Prune(bound)
	}
	if b := g.buffers[0].events; &b[0] != was || cap(b) != room {
		t.Errorf("room for %d, was %d", cap(b), room)
	}
}

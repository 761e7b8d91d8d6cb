package gate

import (
	"testing"

	"sluice/api"
)

// named: does the map have the names of the events that are held, and no other one?
func named(t *testing.T, call string, g *Gate) {
	t.Helper()
	if len(g.names) != g.Len() {
		t.Errorf("%s: %d names, %d events", call, len(g.names), g.Len())
	}
	for _, e := range g.Held() {
		if _, ok := g.names[e.Name()]; !ok {
			t.Errorf("%s: %v has no name in the map", call, e.Name())
		}
	}
}

// The section 'Ways': a name is deleted when its event is let through, so that no more is kept than is held.
func TestNamesAreDeleted(t *testing.T) {
	g, _ := New(50)
	named(t, "New", g)
	for i := range int64(1000) {
		g.Push(api.Event{Ts: i * 37 % 101, Id: uint64(i)})
		named(t, "Push", g)
		if i%10 == 0 {
			g.Advance(i / 10)
			named(t, "Advance", g)
		}
		if i%100 == 99 {
			h, _ := Restore(50, g.Mark(), g.Closed(), g.Held())
			named(t, "Restore", h)
		}
	}
	g.Flush()
	named(t, "Flush", g)
	if len(g.names) != 0 {
		t.Errorf("%d names behind a Flush", len(g.names))
	}
}

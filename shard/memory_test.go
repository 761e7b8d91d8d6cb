package shard

import (
	"runtime"
	"testing"
	"weak"

	"sluice/api"
	"sluice/event"
	"sluice/parse"
	"sluice/plan"
)

// shards of a query, with so many events of one type behind each other, of so many keys in turns.
func shards(t *testing.T, query string, many, keys int64) *Shards {
	t.Helper()
	schema, _, _ := event.ParseSchema("type A(k) type B(k)")
	q, _, code, at := parse.Parse("PATTERN " + query)
	p, flaw := plan.Build(schema, q)
	if code != api.OK || flaw != (api.Flaw{}) {
		t.Fatal(query, code, at, flaw)
	}
	s := New(p)
	for i := range many {
		s.Step(api.Event{Ts: i, Attrs: [api.MaxAttrs]int64{i % keys}})
	}
	return s
}

// What is kept is no more than is told: no partition without an event, no used name that has dropped out, no match that is decided.
func TestNothingElseIsKept(t *testing.T) {
	for _, after := range []string{"ALL", "NEXT", "PAST", "ONCE"} {
		s := shards(t, "SEQ(A a, A b) AFTER "+after+" WITHIN 10 PARTITION BY k", 40, 3)
		for mark := range int64(60) {
			s.Tick(mark)
			if len(s.parts) != len(s.Keys()) {
				t.Fatalf("AFTER %s: at %d %d partitions, %d keys", after, mark, len(s.parts), len(s.Keys()))
			}
			names, matches := 0, 0
			for key, x := range s.parts {
				names, matches = names+x.used.pile.Len(), matches+x.due.Len()
				if len(x.used.names) != x.used.pile.Len() {
					t.Fatalf("AFTER %s: at %d the key %d has %d names in its map, %d in its pile", after, mark, key, len(x.used.names), x.used.pile.Len())
				}
				if x.isEmpty() {
					t.Fatalf("AFTER %s: at %d the key %d keeps nothing", after, mark, key)
				}
			}
			if names != len(s.Used()) || matches != len(s.Waiting()) {
				t.Fatalf("AFTER %s: at %d %d names, %d matches", after, mark, names, matches)
			}
		}
	}
}

// The events that negations look at are dropped with all others.
func TestGuardsAreDropped(t *testing.T) {
	s := shards(t, "SEQ(!A n, B b, !A m) WITHIN 10", 40, 1)
	for mark := range int64(60) {
		s.Tick(mark)
		for _, x := range s.parts {
			for neg := range 2 {
				if got := len(x.guards.Kept(neg)); got != len(s.Kept()) {
					t.Fatalf("at %d %d events are kept, %d of them for the negation %d", mark, len(s.Kept()), got, neg)
				}
			}
		}
	}
}

// A partition that keeps nothing, and at a Close each, is let go: with nobody else who has it, its memory comes free.
func TestPartitionsAreLetGo(t *testing.T) {
	s := shards(t, "SEQ(A a, A b, !B n) AFTER ONCE WITHIN 10 PARTITION BY k", 20, 20)
	var marks []weak.Pointer[partition]
	for key := range int64(20) {
		marks = append(marks, weak.Make(s.parts[key]))
	}
	held := func(when string, from int) {
		t.Helper()
		runtime.GC()
		for key, m := range marks {
			if (m.Value() != nil) != (key >= from) {
				t.Errorf("%s: is the partition of the key %d there: %v", when, key, m.Value() != nil)
			}
		}
	}
	held("at first", 0)
	s.Tick(17)
	held("at 17", 8)
	s.Tick(20)
	held("at 20", 11)
	s.Close()
	held("closed", 20)
	runtime.KeepAlive(s)
}

// Restored shards keep no more than others: of the matches of what is kept those alone that wait.
func TestRestoredKeepNoMore(t *testing.T) {
	s := shards(t, "SEQ(A a, A b) AFTER NEXT WITHIN 10", 20, 1)
	s.Tick(14)
	r, ok := Restore(s.plan, 14, s.Kept(), s.Waiting(), s.Used())
	if !ok || len(r.parts) != 1 {
		t.Fatal("not restored")
	}
	if x, y := r.parts[0], s.parts[0]; x.due.Len() != y.due.Len() || x.used.pile.Len() != y.used.pile.Len() || len(x.used.names) != len(y.used.names) || x.stacks.Len() != y.stacks.Len() {
		t.Errorf("%d matches, %d names, %d events", x.due.Len(), x.used.pile.Len(), x.stacks.Len())
	}
}

package hunt_test

import (
	"fmt"
	"maps"
	"slices"
	"testing"

	"sluice/api"
	"sluice/hunt"
	"sluice/plan"
)

// everyPlan: each of the queries in each of the modes.
func everyPlan(do func(where string, p api.Plan)) {
	for _, query := range queries {
		for mode, p := range moded(query) {
			do(fmt.Sprintf("%s, mode %d", query, mode), p)
		}
	}
}

// agrees: do Each and All find what a plain search over all choices of events finds?
func agrees(t *testing.T, where string, f *field, counts map[string]int) {
	t.Helper()
	want := secondOf(f.p).completed(f.s.Log())
	finds(t, where+": behind "+shown(f.s.Log()), f, want...)
	counts[where] += len(want)
	if t.Failed() {
		t.FailNow()
	}
}

// Promises 13.2, 13.3: every row of a few events, against the plain search.
func TestEveryRowOfEvents(t *testing.T) {
	const most = 4
	alphabet := []api.Event{ev(0, 0, typeA, 0, 1), ev(0, 0, typeA, 1, 0), ev(0, 0, typeB, 1, 1), ev(1, 0, typeA, 1, 1), ev(1, 0, typeC, 1), ev(2, 0, typeB, 2, 0)}
	counts := map[string]int{}
	for _, query := range []string{
		"SEQ(A a, B b) WHERE a.x < b.x WITHIN 3",
		"SEQ(A+ a, !C n, B b) WHERE n.k = b.k AND SUM(a.x) < 3 WITHIN 3",
		"SEQ(!A n, (A|B) a{1,2}, B b) WHERE n.k = b.k AND a.x >= PREV(a.x) WITHIN 2",
	} {
		for mode, p := range moded(query) {
			where := fmt.Sprintf("%s, mode %d", query, mode)
			var from func(f []api.Event)
			from = func(log []api.Event) {
				agrees(t, where, open(p, log...), counts)
				if len(log) == most {
					return
				}
				for _, e := range alphabet {
					e.Id = uint64(len(log))
					if len(log) > 0 {
						e.Ts += log[len(log)-1].Ts
					}
					if plan.InStream(p, e) {
						from(append(slices.Clone(log), e))
					}
				}
			}
			from(nil)
		}
	}
	enough(t, counts, 100, slices.Collect(maps.Keys(counts))...)
}

// Promises 13.2, 13.3: scattered logs, behind each event, against the plain search.
func TestScatteredLogs(t *testing.T) {
	pick := scatter(11)
	counts := map[string]int{}
	everyPlan(func(where string, p api.Plan) {
		for range 60 {
			f := open(p)
			agrees(t, where, f, counts)
			for _, e := range drawLog(pick, p, 7, int64(pick(20)-10)) {
				f.add(e)
				agrees(t, where, f, counts)
			}
		}
	})
	delete(counts, queries[len(queries)-1]+", mode 0") // what is asked there is unknown of all
	delete(counts, queries[len(queries)-1]+", mode 1")
	delete(counts, queries[len(queries)-1]+", mode 2")
	enough(t, counts, 3, slices.Collect(maps.Keys(counts))...)
}

// drawBinding: most often a choice of the log's events for the components, in their order; now and then one that lacks something.
func drawBinding(pick func(int) int, p api.Plan, log []api.Event) api.Binding {
	var b api.Binding
	at := pick(3)
	for comp, c := range p.Comps {
		var l []api.Event
		for many := c.Lo + pick(c.Hi-c.Lo+1); many > 0 && at < len(log); at++ {
			if plan.Takes(p, comp, log[at]) && pick(4) > 0 || pick(20) == 0 {
				l = append(l, log[at])
				many--
			}
		}
		b = append(b, l)
	}
	comp := pick(len(b))
	switch pick(20) {
	case 0:
		return b[:comp]
	case 1:
		return append(b, []api.Event{log[pick(len(log))]})
	case 2:
		b[comp] = append(b[comp], log[pick(len(log))])
	case 3:
		slices.Reverse(b)
	case 4:
		slices.Reverse(b[comp])
	case 5:
		b[comp] = nil
	case 6:
		for i := range b[comp] {
			b[comp][i].Attrs[pick(api.MaxAttrs)] += int64(pick(2))
		}
	}
	return b
}

// Promise 13.1: scattered bindings over scattered logs; each of the six clauses is broken often.
func TestScatteredBindings(t *testing.T) {
	pick := scatter(13)
	flaws := map[string]int{}
	everyPlan(func(where string, p api.Plan) {
		s := secondOf(p)
		for range 60 {
			log := drawLog(pick, p, 10, int64(pick(20)-10))
			for range 20 {
				b := drawBinding(pick, p, log)
				flaw := s.flawOf(log, b)
				flaws[fmt.Sprint("clause ", flaw)]++
				if got := hunt.Fits(p, log, b); got != (flaw == 0) {
					t.Fatalf("13.1: %s: Fits(%s, %s): %v, clause %d", where, shown(log), told(b), got, flaw)
				}
			}
		}
	})
	enough(t, flaws, 200, "clause 0", "clause 1", "clause 2", "clause 3", "clause 4", "clause 5", "clause 6")
}

// Promise 13.5: what comes up behind each event, taken together, is what stands over the whole log, each binding once, behind its last event.
func TestEachBindingOnce(t *testing.T) {
	pick := scatter(17)
	all := 0
	everyPlan(func(where string, p api.Plan) {
		s := secondOf(p)
		for range 4 {
			log := drawLog(pick, p, 9, 0)
			f := open(p)
			found := map[string]int{}
			for _, e := range log {
				f.add(e)
				for _, b := range f.all() {
					found[told(b)]++
					if last(b) != e {
						t.Fatalf("13.5: %s: %s comes up behind %d/%d", where, told(b), e.Ts, e.Id)
					}
				}
			}
			for _, row := range rows(log) {
				for _, b := range s.choices(row) {
					want := 0
					if hunt.Fits(p, log, b) {
						want = 1
					}
					if found[told(b)] != want {
						t.Fatalf("13.5: %s: over %s: %s comes up %d times, want %d", where, shown(log), told(b), found[told(b)], want)
					}
					delete(found, told(b))
					all += want
				}
			}
			if len(found) > 0 {
				t.Fatalf("13.5: %s: over %s: %v come up", where, shown(log), found)
			}
		}
	})
	if all < 1000 {
		t.Errorf("13.5: %d bindings", all)
	}
}

// Promise 13.6: what stands over a log stands over it with more events behind its end.
func TestFirm(t *testing.T) {
	pick := scatter(19)
	counts := map[string]int{}
	everyPlan(func(where string, p api.Plan) {
		for range 40 {
			log := drawLog(pick, p, 16, 0)
			f := open(p)
			var stand []api.Binding
			for i, e := range log {
				f.add(e)
				stand = append(stand, f.all()...)
				for _, b := range stand {
					if !hunt.Fits(p, log[:i+1], b) {
						t.Fatalf("13.6: %s: %s stands no longer over %s", where, told(b), shown(log[:i+1]))
					}
				}
				if len(stand) > 200 {
					break
				}
			}
			counts["standing"] += len(stand)
			// What does not stand though its last event is there never will.
			for range 10 {
				b := drawBinding(pick, p, log)
				upTo := 1 + pick(len(log))
				if hunt.Fits(p, log[:upTo], b) {
					counts["fitting"]++
				} else if len(slices.Concat(b...)) > 0 && slices.Contains(log[:upTo], last(b)) {
					counts["not fitting"]++
					if hunt.Fits(p, log, b) {
						t.Fatalf("13.6: %s: %s stands over %s, but not up to its end", where, told(b), shown(log))
					}
				}
			}
		}
	})
	enough(t, counts, 1000, "standing", "fitting", "not fitting")
}

// Promise 13.7: with and without pruning by bounds below the newest timestamp less the window: just below it, and further.
func TestLean(t *testing.T) {
	pick := scatter(23)
	counts := map[string]int{}
	everyPlan(func(where string, p api.Plan) {
		for round := range 30 {
			whole, lean := open(p), open(p)
			for _, e := range drawLog(pick, p, 30, int64(pick(9)-40)) {
				whole.add(e)
				lean.add(e)
				want := whole.all()
				if got := lean.all(); !same(got, want) {
					t.Fatalf("13.7: %s: behind %d/%d: %s, want %s", where, e.Ts, e.Id, told(got...), told(want...))
				}
				counts["found"] += len(want)
				if len(want) > 500 {
					break
				}
				bound := e.Ts - p.Query.Within - 1
				switch {
				case round%3 == 0: // each time as much as may be
					lean.prune(bound)
				case pick(4) == 0:
					lean.prune(bound - int64(pick(4)))
				}
				if got := lean.all(); !same(got, want) {
					t.Fatalf("13.7: %s: behind a Prune: %s, want %s", where, told(got...), told(want...))
				}
				counts["pruned"] += whole.s.Len() - lean.s.Len()
			}
		}
	})
	enough(t, counts, 5000, "found", "pruned")
}

// Promise 13.8: what is found with STRICT is found with NEXT, and that with ANY; and there are such as are not found with the narrower one.
func TestModesOfOneQuery(t *testing.T) {
	pick := scatter(29)
	counts := map[string]int{}
	for _, query := range queries {
		plans := moded(query)
		for range 100 {
			fields := []*field{open(plans[0]), open(plans[1]), open(plans[2])}
			for _, e := range drawLog(pick, plans[0], 12, 0) {
				var found [3][]api.Binding
				for mode, f := range fields {
					f.add(e)
					found[mode] = f.all()
				}
				for mode := range 2 {
					wide := told(found[mode]...)
					for _, b := range found[mode+1] {
						if !slices.ContainsFunc(found[mode], func(c api.Binding) bool { return same([]api.Binding{b}, []api.Binding{c}) }) {
							t.Fatalf("13.8: %s: %s is found with mode %d, with mode %d just %s", query, told(b), mode+1, mode, wide)
						}
						for m := range mode + 2 {
							if !hunt.Fits(plans[m], fields[m].s.Log(), b) {
								t.Fatalf("13.8: %s: %s does not stand with mode %d", query, told(b), m)
							}
						}
					}
					counts[fmt.Sprint("less with mode ", mode+1)] += len(found[mode]) - len(found[mode+1])
				}
				counts["strict"] += len(found[2])
				if len(found[0]) > 300 {
					break
				}
			}
		}
	}
	enough(t, counts, 500, "less with mode 1", "less with mode 2", "strict")
}

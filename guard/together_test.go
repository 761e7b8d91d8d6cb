package guard_test

import (
	"fmt"
	"math"
	"slices"
	"testing"

	"sluice/api"
	"sluice/check"
	"sluice/guard"
)

// Every row of a few steps, against the second guards.
func TestEveryRowOfSteps(t *testing.T) {
	const most = 4
	p := made("SEQ(!B m, A a, !(B|C) n) WHERE n.k = a.k WITHIN 1")
	steps := []func(q *pair){
		func(q *pair) { q.add(ev(0, 1, typeB, 1, 1)) },
		func(q *pair) { q.add(ev(1, 0, typeC, 1)) },
		func(q *pair) { q.add(ev(1, 1, typeB, 1, 2)) },
		func(q *pair) { q.add(ev(1, 2, typeC, 2)) },
		func(q *pair) { q.add(ev(2, 0, typeB, 1, 1)) },
		func(q *pair) { q.add(ev(2, 0, typeA, 1, 1)) },
		func(q *pair) { q.prune(0) },
		func(q *pair) { q.prune(1) },
		func(q *pair) { q.prune(-1) },
	}
	var row []int
	var from func()
	from = func() {
		if len(row) == most {
			q := open(t, fmt.Sprint("steps ", row), p)
			for _, step := range row {
				steps[step](q)
			}
			for ts := range int64(4) {
				for k := range int64(3) {
					q.ask(q.where, bind(ev(ts, 1, typeA, 0, k)))
				}
			}
			return
		}
		for step := range steps {
			row = append(row, step)
			from()
			row = row[:len(row)-1]
		}
	}
	from()
}

// enough: did each of these come up so often?
func enough(t *testing.T, told map[string]int, least int, kinds ...string) {
	t.Helper()
	for _, kind := range kinds {
		if told[kind] < least {
			t.Errorf("%s came up %d times: too seldom", kind, told[kind])
		}
	}
}

// Promises 12.1 to 12.6 over scattered scripts, against the second guards.
func TestScatteredScripts(t *testing.T) {
	pick := scatter(21)
	for i, query := range queries {
		p, told := made(query), map[string]int{}
		for round := range 40 {
			q := open(t, fmt.Sprintf("query %d, script %d", i, round), p)
			q.pick, q.told = pick, told
			for range 60 {
				q.draw(pick)
			}
		}
		told["added"] = told["added 1"] + told["added 2"]
		if len(p.Negs) > 0 {
			enough(t, told, 40, "added", "added 0", "dropped", "blocked true", "blocked false", "in range true", "in range false")
		}
		if len(p.Negs) > 2 {
			enough(t, told, 100, "added 2")
		}
	}
}

// rising: events in the order of their names, from a time on.
func rising(pick func(int) int, many int, from int64) []api.Event {
	var out []api.Event
	at := api.Name{Ts: from}
	for range many {
		if step := int64(pick(3)); step > 0 {
			at = api.Name{Ts: at.Ts + step, Id: uint64(pick(3))}
		} else {
			at.Id += 1 + uint64(pick(3))
		}
		e := drawEvent(pick, 0)
		e.Ts, e.Id = at.Ts, at.Id
		out = append(out, e)
	}
	return out
}

// Promise 12.7: against a plain list of all events and the trees of the query's conjuncts.
func TestTheMeaningOfANegation(t *testing.T) {
	pick := scatter(31)
	for i, query := range queries {
		p, told := made(query), map[string]int{}
		second := newSecond(p)
		for range 60 {
			g := guard.New(p)
			all := rising(pick, 30, 0)
			for count, e := range all {
				g.Add(e)
				for range 6 {
					b := drawBinding(pick, p, e.Ts, all[:count+1])
					if !fits(p, b) {
						continue
					}
					for neg, n := range p.Negs {
						trees := slices.Concat(second.own[neg], second.rest[neg])
						want := slices.ContainsFunc(all[:count+1], func(f api.Event) bool {
							return isOf(p, n.Item, f) && inRange(p, neg, b, f) && areTrue(p, trees, spread(p, b), n.Item, f)
						})
						if got := g.Blocked(neg, b); got != want {
							t.Fatalf("12.7: query %d: Blocked(%d, %+v) behind %s: %v, want %v", i, neg, b, shown(all[:count+1]), got, want)
						}
						told[fmt.Sprint(neg, want)]++
					}
				}
			}
		}
		for neg := range p.Negs {
			enough(t, told, 100, fmt.Sprint(neg, true), fmt.Sprint(neg, false))
		}
	}
}

// isYoung: are the binding's events all above a bound, and the last one's timestamp less the window too?
func isYoung(p api.Plan, b api.Binding, bound int64) bool {
	flat := slices.Concat(b...)
	return !slices.ContainsFunc(flat, func(e api.Event) bool { return e.Ts <= bound }) && flat[len(flat)-1].Ts-p.Query.Within > bound
}

// Promise 12.8: guards that prune beside such that do not.
func TestPruningInTime(t *testing.T) {
	pick := scatter(41)
	for i, query := range queries {
		p, told := made(query), map[string]int{}
		for range 120 {
			g, whole := guard.New(p), guard.New(p)
			all := rising(pick, 20, 0)
			for _, e := range all {
				added(t, whole, g.Add(e), e)
			}
			bound := int64(-1)
			for range 4 {
				bound += int64(pick(5))
				g.Prune(bound)
				for range 20 {
					b := drawBinding(pick, p, 2+int64(pick(24)), all)
					if !fits(p, b) {
						continue
					}
					for neg := range p.Negs {
						got, want := g.Blocked(neg, b), whole.Blocked(neg, b)
						young := isYoung(p, b, bound)
						if young && got != want {
							t.Fatalf("12.8: query %d: Blocked(%d, %+v) behind Prune(%d) of %s: %v, want %v", i, neg, b, bound, shown(all), got, want)
						}
						if young && want {
							told["young and blocked"]++
						}
						if !young && got != want {
							told["old and let go"]++
						}
					}
				}
			}
		}
		if len(p.Negs) > 0 {
			enough(t, told, 20, "young and blocked", "old and let go")
		}
	}
}

// Promise 12.8: at its edge: the bound is just below what a leading negation can need, and one above that.
func TestPruningAtTheEdge(t *testing.T) {
	for _, first := range []int64{api.MinTs, -1, 0, 5, api.MaxTs - 9} {
		p := made("SEQ(!B m, A a, A b) WITHIN 5")
		g := guard.New(p)
		added(t, g, 1, ev(first, 0, typeB))
		b := bind(ev(first+2, 0, typeA), ev(first+5, 0, typeA))
		pruned(t, g, first-1, 0)
		blocked(t, g, 0, true, b)
		blocked(t, g, 0, false, bind(ev(first+2, 0, typeA), ev(first+6, 0, typeA)))
		pruned(t, g, first, 1)
		blocked(t, g, 0, false, b)
	}
}

// isFirm: does the negation's range of the binding end at or ahead of the last event that was laid down?
func isFirm(p api.Plan, neg int, b api.Binding, last api.Event) bool {
	if before := p.Negs[neg].Before; before < len(p.Comps) {
		return !isBehind(b[before][0], last)
	}
	return !atMost(last.Ts, b[0][0].Ts, p.Query.Within)
}

// asks: a binding, what a negation said of it, and whether that is for good.
type asks struct {
	neg           int
	b             api.Binding
	blocked, firm bool
}

// Promise 12.9: what is blocked stays so, and what is not blocked and firm stays so too, over scripts that go on adding.
func TestGrowing(t *testing.T) {
	pick := scatter(51)
	for i, query := range queries {
		p, told := made(query), map[string]int{}
		for range 200 {
			g := guard.New(p)
			g.Prune(-3)
			var old []asks
			var last api.Event
			laid := false
			for _, e := range rising(pick, 30, -4) {
				if g.Add(e) > 0 {
					last, laid = e, true
				}
				for k := range old {
					a := &old[k]
					got := g.Blocked(a.neg, a.b)
					if got != a.blocked && (a.blocked || a.firm) {
						t.Fatalf("12.9: query %d: Blocked(%d, %+v) behind Add(%d/%d): %v", i, a.neg, a.b, e.Ts, e.Id, got)
					}
					if got && !a.blocked {
						told["grown"]++
					}
					a.blocked = got
				}
				for range 3 {
					b := drawBinding(pick, p, e.Ts+int64(pick(6)), []api.Event{e, last})
					if !fits(p, b) || !laid {
						continue
					}
					for neg := range p.Negs {
						a := asks{neg, b, g.Blocked(neg, b), isFirm(p, neg, b, last)}
						old = append(old, a)
						told[fmt.Sprintf("blocked %v, firm %v", a.blocked, a.firm)]++
					}
				}
			}
		}
		if len(p.Negs) > 0 {
			enough(t, told, 30, "grown", "blocked true, firm true", "blocked true, firm false", "blocked false, firm true", "blocked false, firm false")
		}
	}
}

// Promise 12.9 at its edges: the last event has the name of the range's end, stands one id ahead of it, has the timestamp up to which a trailing range reaches.
func TestGrowingAtTheEdge(t *testing.T) {
	g := guard.New(made("SEQ(A a, !B n, C c) WITHIN 5"))
	b := bind(ev(1, 1, typeA), ev(4, 4, typeC))
	added(t, g, 1, ev(1, 0, typeB), ev(1, 1, typeB))
	blocked(t, g, 0, false, b)
	added(t, g, 1, ev(4, 4, typeB))
	for _, e := range []api.Event{ev(4, 5, typeB), ev(5, 0, typeB), ev(math.MaxInt64, 0, typeB)} {
		blocked(t, g, 0, false, b)
		added(t, g, 0, ev(3, 3, typeB), ev(4, 3, typeB))
		added(t, g, 1, e)
	}
	blocked(t, g, 0, false, b)

	g = guard.New(made("SEQ(A a, !B n, C c) WITHIN 5"))
	added(t, g, 1, ev(1, 1, typeB))
	blocked(t, g, 0, false, b)
	added(t, g, 1, ev(4, 3, typeB)) // the last one ahead of the end
	blocked(t, g, 0, true, b)

	trail := bind(ev(5, 1, typeA))
	g = guard.New(made("SEQ(A a, !B n) WHERE n.x = 1 OR a.k = 1 WITHIN 5"))
	added(t, g, 1, ev(10, 1, typeB))
	blocked(t, g, 0, false, trail)
	added(t, g, 1, ev(10, 2, typeB, 1)) // one of the same timestamp can come yet
	blocked(t, g, 0, true, trail)

	g = guard.New(made("SEQ(A a, !B n) WITHIN 5"))
	added(t, g, 1, ev(11, 0, typeB))
	blocked(t, g, 0, false, trail)
	added(t, g, 0, ev(10, 9, typeB))
	added(t, g, 1, ev(11, 1, typeB), ev(12, 0, typeB))
	blocked(t, g, 0, false, trail)
}

// alone: the query less its negated items but one, and less the conjuncts that mention them.
func alone(q api.Query, item int) api.Query {
	gone := map[string]bool{}
	var items []api.Item
	for i, x := range q.Items {
		if x.Neg && i != item {
			gone[x.Var] = true
		} else {
			items = append(items, x)
		}
	}
	var where []api.Node
	for _, root := range check.Conjuncts(q.Where) {
		tree := check.Sub(q.Where, root)
		if slices.ContainsFunc(tree, func(n api.Node) bool { return gone[n.Var] }) {
			continue
		}
		left := len(where)
		for _, n := range tree {
			if n.A >= 0 {
				n.A += left
			}
			if n.B >= 0 {
				n.B += left
			}
			where = append(where, n)
		}
		if left > 0 {
			where = append(where, api.Node{Op: api.OpAnd, A: left - 1, B: len(where) - 1})
		}
	}
	q.Items, q.Where = items, where
	return q
}

// Promise 12.10: the same query less its other negations, given the same events.
func TestOneBufferEach(t *testing.T) {
	pick := scatter(61)
	told := map[bool]int{}
	for i, query := range queries {
		p := made(query)
		var singles []api.Plan
		for _, n := range p.Negs {
			singles = append(singles, planned(alone(p.Query, n.Item)))
			if len(singles[len(singles)-1].Negs) != 1 {
				t.Fatalf("query %d: %+v", i, singles)
			}
		}
		for range 30 {
			whole := guard.New(p)
			var single []*guard.Guards
			for _, s := range singles {
				single = append(single, guard.New(s))
			}
			all := rising(pick, 30, 0)
			for _, e := range all {
				sum := 0
				for _, s := range single {
					sum += s.Add(e)
				}
				added(t, whole, sum, e)
				if pick(8) == 0 {
					bound, dropped := e.Ts-int64(pick(9)), 0
					for _, s := range single {
						dropped += s.Prune(bound)
					}
					pruned(t, whole, bound, dropped)
				}
				for neg, s := range single {
					kept(t, whole, neg, s.Kept(0)...)
				}
				for range 4 {
					b := drawBinding(pick, p, e.Ts, all)
					for neg, s := range single {
						want := s.Blocked(0, b)
						blocked(t, whole, neg, want, b)
						told[want]++
					}
				}
			}
		}
	}
	if told[true] < 1000 || told[false] < 1000 {
		t.Errorf("12.10: %v come up", told)
	}
}

package guard_test

import (
	"fmt"
	"math"
	"slices"
	"strings"
	"sync"
	"testing"

	"sluice/api"
	"sluice/guard"
)

// oddBindings: such as fit some plan, and such as fit none.
func oddBindings() []api.Binding {
	one := []api.Event{ev(0, 0, 0)}
	var out []api.Binding
	for many := range 5 {
		b := make(api.Binding, many)
		for i := range b {
			b[i] = one
		}
		out = append(out, b)
	}
	return append(out, make(api.Binding, 3), make(api.Binding, 100), api.Binding{one, {}}, api.Binding{{}, one},
		bind(ev(math.MinInt64, 0, -1), ev(math.MaxInt64, math.MaxUint64, 99)), bind(ev(math.MaxInt64, 0, -1), ev(math.MinInt64, math.MaxUint64, 99)))
}

// Promise P1: plans that nobody built: every call ends.
func TestPlansOfOnesOwn(t *testing.T) {
	yes := api.Program{Code: []api.Instr{{Code: api.CodePush, N: 1}}}
	odds := []api.Program{{}, yes, {Code: []api.Instr{{Code: api.CodeAdd}}}, {Code: []api.Instr{{Code: api.CodeLoad, Item: -1, Col: 9}}}, {Code: []api.Instr{{Code: 99}}}}
	numbers := append([]int{0, 1, 2, 3, 9, 10, 11}, wildNumbers...)
	for _, n := range numbers {
		for _, other := range []int{-1, 0, 1, 2, n} {
			for _, program := range odds {
				list := []api.Program{program, yes}
				neg := api.Neg{Item: n, Types: []int{0, n}, After: n, Before: other}
				back := api.Neg{Item: other, Types: []int{0}, After: other, Before: n, Own: list[1:], Rest: list}
				plans := []api.Plan{
					{},
					{Negs: []api.Neg{neg, back}},
					{Comps: make([]api.Comp, 2), Negs: []api.Neg{neg, back, {}, {Own: list, Rest: list}}, Query: api.Query{Within: int64(n)}},
					{Comps: []api.Comp{{Item: n}}, Negs: []api.Neg{back, {Types: []int{0, 1}, Rest: list}, neg}, Query: api.Query{Within: math.MinInt64, Items: make([]api.Item, 3)}},
					{Comps: make([]api.Comp, 100), Negs: make([]api.Neg, 100)},
				}
				for _, p := range plans {
					every(p, numbers)
				}
			}
		}
	}
}

// every asks all calls.
func every(p api.Plan, numbers []int) {
	g := guard.New(p)
	for _, ts := range []int64{math.MinInt64, -1, 0, math.MaxInt64} {
		for typ := -1; typ < 2; typ++ {
			g.Add(ev(ts, uint64(typ+1), typ))
		}
	}
	bindings := oddBindings()
	for _, bound := range []int64{math.MinInt64, -1, math.MaxInt64} {
		for _, neg := range numbers {
			g.Kept(neg)
			for _, b := range bindings {
				g.Blocked(neg, b)
				guard.InRange(p, neg, b, ev(bound, 0, 0))
			}
		}
		g.Prune(bound)
	}
}

// Promise P1: long rows of events, pruned now and then, and questions of them, end in time.
func TestLongRows(t *testing.T) {
	const many = 100000
	p := made("SEQ(!B m, A a, !(B|C) n, C c) WHERE n.k = a.k AND m.x >= 0 WITHIN 50")
	g := guard.New(p)
	ask := func(last int64) {
		t.Helper()
		for _, back := range []int64{2, 7, 20} {
			at := last - back
			for _, k := range []int64{0, 1} {
				b := bind(ev(at, 0, typeA, 0, k), ev(at+2, 0, typeC, 0))
				if !g.Blocked(0, b) || g.Blocked(1, b) != (k == 0) {
					t.Fatalf("12.6: behind the event %d: %v, %v", last, g.Blocked(0, b), g.Blocked(1, b))
				}
			}
		}
	}
	for i := range int64(many) {
		if got, want := g.Add(ev(i, 0, int(1+i%2), 0, 0)), int(2-i%2); got != want {
			t.Fatalf("12.2: Add of the event %d: %d, want %d", i, got, want)
		}
		if i > 20 {
			ask(i)
		}
	}
	if m, n := len(g.Kept(0)), len(g.Kept(1)); m != many/2 || n != many {
		t.Errorf("12.4: %d, %d", m, n)
	}
	if got := g.Prune(many - 51); got != (many-50)/2+many-50 {
		t.Errorf("12.3: %d", got)
	}
	for i := int64(many); i < 2*many; i++ {
		if g.Add(ev(i, 0, int(1+i%2), 0, 0)) != int(2-i%2) || g.Prune(i-50) != int(2-i%2) || g.Prune(i-50) != 0 {
			t.Fatalf("12.3: behind the event %d", i)
		}
		ask(i)
	}
	if m, n := len(g.Kept(0)), len(g.Kept(1)); m != 25 || n != 50 {
		t.Errorf("12.4: %d, %d", m, n)
	}
}

// Promise P2: the lists that Kept answers are new memory: written over and grown they change nothing, nor are they changed by later steps.
func TestWhatIsHandedOutIsNew(t *testing.T) {
	pick := scatter(81)
	for round := range 80 {
		p := open(t, fmt.Sprint("script ", round), made(queries[round%len(queries)]))
		var lists, were [][]api.Event
		for range 40 {
			p.draw(pick)
			for neg := range p.want.plan.Negs {
				first, one, other := p.guards.Kept(neg), p.guards.Kept(neg), p.guards.Kept(neg)
				was := slices.Clone(one)
				scrawl(other)
				if !slices.Equal(one, was) {
					t.Fatalf("P2: %s: two answers share memory", p.where)
				}
				scrawl(one)
				lists, were = append(lists, first), append(were, was)
			}
			p.asked("lists written over")
		}
		for i, l := range lists {
			if !slices.Equal(l, were[i]) {
				t.Fatalf("P2: %s: an answer was changed later: %s, was %s", p.where, shown(l), shown(were[i]))
			}
			scrawl(l)
		}
		p.asked("all lists written over")
		p.add(ev(p.now()+1, 0, typeB, 1, 1))
	}
}

// Promise P2: behind a Prune what comes next is not laid over what was told before, nor over what is kept.
func TestAddBehindAPrune(t *testing.T) {
	for drop := range int64(9) {
		g := guard.New(made(ends))
		var all []api.Event
		for i := range int64(8) {
			all = append(all, ev(i, 0, typeB, 1))
		}
		added(t, g, 2, all...)
		before := g.Kept(0)
		pruned(t, g, drop-1, int(2*min(drop, 8)))
		between := g.Kept(1)
		for i := int64(8); i < 30; i++ {
			e := ev(i, 0, typeB, 2)
			added(t, g, 2, e)
			all = append(all, e)
			if !slices.Equal(before, all[:8]) || !slices.Equal(between, all[min(drop, 8):8]) {
				t.Fatalf("P2: %s, %s", shown(before), shown(between))
			}
			kept(t, g, 0, all[min(drop, 8):]...)
			kept(t, g, 1, all[min(drop, 8):]...)
		}
	}
}

// Promise P2: the plan and the bindings that are handed in are not changed.
func TestWhatIsHandedInStays(t *testing.T) {
	pick := scatter(83)
	for _, query := range queries {
		plan := made(query)
		was := fmt.Sprintf("%+v", plan)
		p := open(t, query, plan)
		for range 60 {
			p.draw(pick)
			b := drawBinding(pick, plan, p.now(), p.want.all())
			for i := range b { // spare room behind each list
				b[i] = append(slices.Grow(b[i], 3), ev(9, 9, 9, 9))[:len(b[i])]
			}
			whole := func() string {
				var out strings.Builder
				for _, l := range b[:cap(b)] {
					fmt.Fprintf(&out, "%+v %d\n", l[:cap(l)], len(l))
				}
				return out.String()
			}
			text := whole()
			for neg := range plan.Negs {
				p.guards.Blocked(neg, b)
				guard.InRange(plan, neg, b, drawEvent(pick, p.now()))
			}
			if whole() != text {
				t.Fatalf("P2: %s: the binding is another one", query)
			}
		}
		if fmt.Sprintf("%+v", plan) != was {
			t.Errorf("P2: %s: the plan is another one", query)
		}
	}
}

// Promise P2: bindings are not kept: their lists written over behind a call change nothing.
func TestBindingsAreNotKept(t *testing.T) {
	pick := scatter(85)
	for _, query := range queries {
		p := open(t, query, made(query))
		for range 60 {
			p.draw(pick)
			b := drawBinding(pick, p.want.plan, p.now(), p.want.all())
			p.ask(query, b)
			for i := range b {
				scrawl(b[i])
			}
			clear(b)
			p.asked("a binding written over")
		}
	}
}

// Promise P3: guards of unlike plans, and two of the same plan, in turns.
func TestGuardsInTurns(t *testing.T) {
	pick := scatter(91)
	for round := range 60 {
		where := fmt.Sprint("script ", round)
		one, other := made(queries[round%len(queries)]), made(queries[(round+1)%len(queries)])
		all := []*pair{open(t, where+", one", one), open(t, where+", another one", other), open(t, where+", the first plan again", one)}
		for range 40 {
			if pick(3) == 0 { // the same event for all of them
				e := drawEvent(pick, all[0].now())
				for _, p := range all {
					p.add(e)
				}
				continue
			}
			all[pick(len(all))].draw(pick)
			for _, p := range all {
				p.asked("a step of others")
			}
		}
	}
}

// answers: what guards answer to scattered steps, as a text.
func answers(p api.Plan, seed uint64) string {
	pick := scatter(seed)
	g := guard.New(p)
	var out strings.Builder
	now := int64(0)
	for range 200 {
		if pick(5) == 0 {
			fmt.Fprintln(&out, g.Prune(now-int64(pick(8))))
		} else if e := drawEvent(pick, now); g.Add(e) > 0 {
			now = e.Ts
		}
		b := drawBinding(pick, p, now, nil)
		for neg := range p.Negs {
			fmt.Fprintln(&out, g.Kept(neg), g.Blocked(neg, b), guard.InRange(p, neg, b, drawEvent(pick, now)))
		}
	}
	return out.String()
}

// Promise P3: the same steps, the same answers, whatever other guards of the same plan are told at that time.
func TestSameStepsSameAnswers(t *testing.T) {
	plans := make([]api.Plan, len(queries))
	want := make([]string, len(queries))
	for i, query := range queries {
		plans[i] = made(query)
		want[i] = answers(plans[i], uint64(i+1))
	}
	got := make([]string, 4*len(want))
	var group sync.WaitGroup
	for i := range got {
		group.Go(func() { got[i] = answers(plans[i%len(want)], uint64(i%len(want)+1)) })
	}
	group.Wait()
	for i, g := range got {
		if g != want[i%len(want)] {
			t.Errorf("P3: the steps %d are answered otherwise", i%len(want))
		}
	}
}

// Promise P3: questions change nothing, not even what another goroutine asks at that time.
func TestQuestionsAtTheSameTime(t *testing.T) {
	p := made(queries[3])
	g := guard.New(p)
	for _, e := range rising(scatter(7), 200, 0) {
		g.Add(e)
	}
	ask := func(seed uint64) string {
		pick := scatter(seed)
		var out strings.Builder
		for range 300 {
			b := drawBinding(pick, p, int64(pick(200)), nil)
			for neg := range p.Negs {
				fmt.Fprintln(&out, g.Blocked(neg, b), len(g.Kept(neg)))
			}
		}
		return out.String()
	}
	want := []string{ask(1), ask(2), ask(3), ask(4)}
	got := make([]string, len(want))
	var group sync.WaitGroup
	for i := range got {
		group.Go(func() { got[i] = ask(uint64(i + 1)) })
	}
	group.Wait()
	if !slices.Equal(got, want) {
		t.Error("P3: questions are answered otherwise when others are asked")
	}
}

// refuse tells guards events that they refuse, and such as nothing looks at, as many kinds of them as there are at that time, and asks for what is not there.
func refuse(p *pair) {
	p.t.Helper()
	g := p.guards
	added(p.t, g, 0, ev(p.now()+5, 0, -1, 1, 1), ev(p.now()+5, 0, 4, 1, 1), ev(math.MaxInt64, math.MaxUint64, 77, 1, 1))
	for _, e := range p.want.all() {
		added(p.t, g, 0, e, ev(e.Ts-1, math.MaxUint64, e.Type, 1, 1))
		if e.Id > 0 {
			added(p.t, g, 0, ev(e.Ts, e.Id-1, e.Type, 1, 1))
		}
	}
	for typ := range 4 {
		for _, bound := range p.want.bounds {
			added(p.t, g, 0, ev(bound, math.MaxUint64, typ, 1, 1), ev(bound-1, 0, typ, 1, 1))
		}
	}
	for _, neg := range wildNumbers {
		kept(p.t, g, neg)
		blocked(p.t, g, neg, false, drawBinding(p.pick, p.want.plan, p.now(), nil))
	}
	for neg := range p.want.plan.Negs {
		blocked(p.t, g, neg, false, nil, make(api.Binding, len(p.want.plan.Comps)), make(api.Binding, 99))
	}
}

// Promise P4: a call that refuses changes nothing: of two that are told the same one is told refused events in between, and every later call of both answers the same.
func TestRefusalsChangeNothing(t *testing.T) {
	pick := scatter(101)
	for round := range 60 {
		plan := made(queries[round%len(queries)])
		p, q := open(t, fmt.Sprint("script ", round), plan), open(t, fmt.Sprint("script ", round, ", refusals"), plan)
		for range 40 {
			refuse(q)
			q.asked("refusals")
			seed := uint64(pick(1 << 20))
			p.draw(scatter(seed + 1))
			q.draw(scatter(seed + 1))
			b := drawBinding(pick, plan, p.now(), p.want.all())
			for neg := range plan.Negs {
				kept(t, q.guards, neg, p.guards.Kept(neg)...)
				blocked(t, q.guards, neg, p.guards.Blocked(neg, b), b)
			}
		}
	}
}

package stacks_test

import (
	"fmt"
	"math"
	"slices"
	"strings"
	"sync"
	"testing"

	"sluice/api"
	"sluice/stacks"
)

// Promise P1: plans that nobody built: every call ends.
func TestPlansOfOnesOwn(t *testing.T) {
	yes := api.Program{Code: []api.Instr{{Code: api.CodePush, N: 1}}}
	odds := []api.Program{{}, yes, {Code: []api.Instr{{Code: api.CodeAdd}}}, {Code: []api.Instr{{Code: api.CodeLoad, Item: -1, Col: 9}}}, {Code: []api.Instr{{Code: 99}}}}
	numbers := append([]int{0, 1, 2, 9, 10, 11}, wildNumbers...)
	for _, n := range numbers {
		for _, own := range odds {
			list := []api.Program{own, yes}
			plans := []api.Plan{
				{},
				{Used: []bool{true, true}},
				{Comps: []api.Comp{{Item: n, Types: []int{0, n}, Own: list, Lo: n, Hi: n}, {Item: n, Own: list}, {}, {Types: []int{1}}}, Used: []bool{true, true, false, true}},
				{Comps: make([]api.Comp, 100), Negs: []api.Neg{{Item: n, After: n, Before: n}}, Used: make([]bool, 99), Query: api.Query{Within: int64(n)}},
			}
			for _, p := range plans {
				every(p, numbers)
			}
		}
	}
}

// every asks all calls.
func every(p api.Plan, numbers []int) {
	s := stacks.New(p)
	for i, ts := range wildTimes {
		for typ := -1; typ < 5; typ++ {
			s.Add(ev(ts, uint64(typ+1), typ, int64(i)))
		}
		s.Len()
		s.Log()
		for _, comp := range numbers {
			s.Depth(comp)
			for _, at := range numbers {
				s.At(comp, at)
			}
		}
		if i%2 == 0 {
			s.Prune(wildTimes[i/2])
		}
	}
}

// Promise P1: long rows of events, pruned now and then, end in time.
func TestLongRows(t *testing.T) {
	const many = 200000
	p := made("SEQ(A+ a, !C n, (A|B) b) WHERE a.x > 0 WITHIN 50")
	s := stacks.New(p)
	for i := range int64(many) {
		if !s.Add(ev(i, 0, int(i%3), i%5)) {
			t.Fatalf("11.2: the event %d is refused", i)
		}
	}
	if s.Len() != many || s.Depth(1) != many*2/3+1 {
		t.Errorf("11.4: %d, %d", s.Len(), s.Depth(1))
	}
	if got := s.Prune(many - 51); got != many-50 {
		t.Errorf("11.3: %d", got)
	}
	for i := int64(many); i < 2*many; i++ {
		if !s.Add(ev(i, 0, int(i%3), i%5)) || s.Prune(i-50) != 1 || s.Prune(i-50) != 0 || s.Len() != 50 {
			t.Fatalf("11.3: behind the event %d: %d are left", i, s.Len())
		}
	}
	tells(t, "many", s, p, s.Log())
}

// Promise P2: the list that Log answers is new memory: written over and grown it changes nothing, nor is it changed by later steps.
func TestWhatIsHandedOutIsNew(t *testing.T) {
	pick := scatter(81)
	for round := range 150 {
		p := open(t, fmt.Sprint("script ", round), made(queries[round%len(queries)]))
		var lists, were [][]api.Event
		for range 50 {
			p.draw(pick)
			kept, one, other := p.stacks.Log(), p.stacks.Log(), p.stacks.Log()
			was := slices.Clone(one)
			scrawl(other)
			if !slices.Equal(one, was) {
				t.Fatalf("P2: %s: two answers share memory", p.where)
			}
			scrawl(one)
			p.asked("lists written over")
			lists, were = append(lists, kept), append(were, was)
		}
		for i, l := range lists {
			if !slices.Equal(l, were[i]) {
				t.Fatalf("P2: %s: an answer was changed later: %s, was %s", p.where, shown(l), shown(were[i]))
			}
			scrawl(l)
		}
		p.asked("all lists written over")
		p.add(ev(p.now()+1, 0, typeA, 1))
	}
}

// Promise P2: behind a Prune what comes next is not laid over what was told before, nor over what is kept.
func TestAddBehindAPrune(t *testing.T) {
	p := made(chapter)
	for drop := range int64(9) {
		s := stacks.New(p)
		var all []api.Event
		for i := range int64(8) {
			all = append(all, ev(i, 0, typeA, 1))
		}
		added(t, s, true, all...)
		before := s.Log()
		pruned(t, s, drop-1, int(min(drop, 8)))
		between := s.Log()
		for i := int64(8); i < 30; i++ {
			e := ev(i, 0, int(i%3), 2)
			added(t, s, true, e)
			all = append(all, e)
			if !slices.Equal(before, all[:8]) || !slices.Equal(between, all[min(drop, 8):8]) {
				t.Fatalf("P2: %s, %s", shown(before), shown(between))
			}
			tells(t, "behind a Prune", s, p, all[min(drop, 8):])
		}
	}
}

// Promise P2: the plan that is handed in is not changed.
func TestThePlanStays(t *testing.T) {
	pick := scatter(83)
	for _, query := range queries {
		plan := made(query)
		was := fmt.Sprintf("%+v", plan)
		p := open(t, query, plan)
		for range 50 {
			p.draw(pick)
		}
		if fmt.Sprintf("%+v", plan) != was {
			t.Errorf("P2: %s: the plan is another one", query)
		}
	}
}

// Promise P3: stacks of unlike plans, and two of the same plan, in turns.
func TestStacksInTurns(t *testing.T) {
	pick := scatter(91)
	for round := range 100 {
		where := fmt.Sprint("script ", round)
		one, other := made(queries[round%len(queries)]), made(queries[(round+1)%len(queries)])
		all := []*pair{open(t, where+", one", one), open(t, where+", another one", other), open(t, where+", the first plan again", one)}
		for range 60 {
			if pick(3) == 0 { // the same event for all of them
				e := drawEvent(pick, all[0].now())
				for _, p := range all {
					p.add(e)
				}
				continue
			}
			all[pick(len(all))].draw(pick)
			for _, p := range all {
				p.asked("a step of others")
			}
		}
	}
}

// answers: what stacks answer to scattered steps, as a text.
func answers(p api.Plan, seed uint64) string {
	pick := scatter(seed)
	s := stacks.New(p)
	var out strings.Builder
	now := int64(0)
	for range 200 {
		if pick(5) == 0 {
			fmt.Fprintln(&out, s.Prune(now-int64(pick(8))))
		} else if e := drawEvent(pick, now); s.Add(e) {
			now = e.Ts
		}
		fmt.Fprintln(&out, s.Len(), s.Log())
		for comp := range p.Comps {
			x, ok := s.At(comp, pick(9))
			fmt.Fprintln(&out, s.Depth(comp), x, ok)
		}
	}
	return out.String()
}

// Promise P3: the same steps, the same answers, whatever other stacks of the same plan are told at that time.
func TestSameStepsSameAnswers(t *testing.T) {
	plans := make([]api.Plan, len(queries))
	want := make([]string, len(queries))
	for i, query := range queries {
		plans[i] = made(query)
		want[i] = answers(plans[i], uint64(i))
	}
	got := make([]string, 4*len(want))
	var group sync.WaitGroup
	for i := range got {
		group.Go(func() { got[i] = answers(plans[i%len(want)], uint64(i%len(want))) })
	}
	group.Wait()
	for i, g := range got {
		if g != want[i%len(want)] {
			t.Errorf("P3: the steps %d are answered otherwise", i%len(want))
		}
	}
}

// refuse tells stacks events that they refuse, as many kinds of them as there are at that time, and asks for what is not there.
func refuse(p *pair) {
	p.t.Helper()
	s, l := p.stacks, p.want.log()
	added(p.t, s, false, ev(p.now()+5, 0, -1, 1), ev(p.now()+5, 0, 4, 1), ev(math.MaxInt64, math.MaxUint64, 77, 1))
	for _, e := range l {
		added(p.t, s, false, e, ev(e.Ts-1, math.MaxUint64, e.Type, 1))
		if e.Id > 0 {
			added(p.t, s, false, ev(e.Ts, e.Id-1, e.Type, 1))
		}
	}
	for typ := range 4 {
		for _, bound := range p.want.bounds {
			added(p.t, s, false, ev(bound, math.MaxUint64, typ, 1), ev(bound-1, 0, typ, 1))
		}
	}
	for _, n := range wildNumbers {
		none(p.t, p.where, s, n, 0)
		none(p.t, p.where, s, 0, n)
	}
}

// Promise P4: a call that refuses changes nothing: of two that are told the same one is told refused events in between, and every later call of both answers the same.
func TestRefusalsChangeNothing(t *testing.T) {
	pick := scatter(101)
	for round := range 150 {
		plan := made(queries[round%len(queries)])
		p, q := open(t, fmt.Sprint("script ", round), plan), open(t, fmt.Sprint("script ", round, ", refusals"), plan)
		for range 40 {
			refuse(q)
			q.asked("refusals")
			seed := uint64(pick(1 << 20))
			p.draw(scatter(seed))
			q.draw(scatter(seed))
			same(t, p.where, plan, p.stacks, q.stacks)
		}
	}
}

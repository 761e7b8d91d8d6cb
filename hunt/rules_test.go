package hunt_test

import (
	"fmt"
	"math"
	"slices"
	"strings"
	"sync"
	"testing"

	"sluice/api"
	"sluice/guard"
	"sluice/hunt"
	"sluice/stacks"
)

// every asks all calls of a plan, with stacks and guards that may be another one's.
func every(p api.Plan, f *field, logs [][]api.Event, bindings []api.Binding) {
	hunt.All(p, f.s, f.g)
	for range hunt.Each(p, f.s, f.g) {
		break
	}
	for _, b := range bindings {
		hunt.Finish(p, b)
		for _, log := range logs {
			hunt.Fits(p, log, b)
		}
	}
}

// wildLogs: in their order and not, of all types and of none.
func wildLogs() [][]api.Event {
	out := [][]api.Event{nil, {}}
	var rising []api.Event
	for i, ts := range wildTimes[:8] {
		rising = append(rising, ev(ts, uint64(i), i%3, int64(i)))
		out = append(out, []api.Event{ev(ts, 0, wildNumbers[i])})
	}
	falling := slices.Clone(rising)
	slices.Reverse(falling)
	return append(out, rising, falling, append(slices.Clone(rising), rising...))
}

// wildBindings: of several numbers of lists, of events of these logs and of none.
func wildBindings(logs [][]api.Event) []api.Binding {
	out := []api.Binding{nil, {}, make(api.Binding, 1), make(api.Binding, 3), make(api.Binding, 100)}
	for _, log := range logs {
		for many := 1; many < 4; many++ {
			b := make(api.Binding, many)
			for i, e := range log {
				b[i%many] = append(b[i%many], e)
			}
			out = append(out, b)
		}
		if len(log) > 3 {
			out = append(out, bind(log[:2]...), bind(log[:3]...), api.Binding{log[:2], log[2:4]}, bind(log[0], log[len(log)-1]))
		}
	}
	return out
}

// Promise P1: plans that nobody built: every call ends.
func TestPlansOfOnesOwn(t *testing.T) {
	yes := api.Program{Code: []api.Instr{{Code: api.CodePush, N: 1}}}
	odds := []api.Program{{}, yes, {Code: []api.Instr{{Code: api.CodeAdd}}}, {Code: []api.Instr{{Code: api.CodeLoad, Item: -1, Col: 9}}}, {Code: []api.Instr{{Code: 99}}}}
	logs := wildLogs()
	bindings := wildBindings(logs)
	all := []bool{true, true, true}
	for _, n := range append([]int{0, 1, 2, 3, 9, 10, 11}, wildNumbers...) {
		for _, program := range odds {
			list := []api.Program{program}
			conds := []api.Cond{{Prog: program, Each: n}, {Prog: yes, Each: -1, Prev: true}}
			comp := api.Comp{Item: n, Types: []int{0, 1, 2, n}, Lo: n, Hi: n, Conds: conds}
			wide := api.Comp{Item: 1, Types: []int{2, 1, 0}, Lo: math.MinInt, Hi: math.MaxInt, Conds: conds[1:]}
			none := api.Comp{Types: []int{0, 1, 2}, Lo: 1, Hi: n}
			neg := api.Neg{Item: n, Types: []int{0, 1, 2}, After: n, Before: -n, Rest: list}
			for _, p := range []api.Plan{
				{},
				{Used: all},
				{Comps: []api.Comp{wide}, Used: all, Query: api.Query{Within: int64(n)}},
				{Comps: []api.Comp{comp, wide}, Used: all, Negs: []api.Neg{neg, {}}, Query: api.Query{Within: math.MaxInt64, Mode: api.Mode(n)}, Ret: list},
				{Comps: []api.Comp{wide, comp}, Used: all, Fixed: []api.Program{yes}, Query: api.Query{Within: math.MinInt64, Mode: api.ModeNext, Items: make([]api.Item, 2)}, Tail: true, Ret: list},
				{Comps: []api.Comp{none, wide, none}, Used: all, Negs: []api.Neg{neg}, Query: api.Query{Within: math.MaxInt64, Mode: api.ModeStrict, Items: make([]api.Item, 3)}},
				{Comps: []api.Comp{{Types: []int{0}, Hi: 1}, none}, Used: all, Fixed: list, Query: api.Query{Within: math.MaxInt64}},
				{Comps: make([]api.Comp, 100), Negs: make([]api.Neg, 100), Used: all},
			} {
				for _, log := range logs {
					every(p, open(p, log...), logs[:3], bindings[:4])
				}
				every(p, open(p), logs, bindings)
			}
		}
	}
}

// Promise P1: stacks and guards of other plans, that have been told other things, and none at all: every call ends.
func TestOtherPairs(t *testing.T) {
	pick := scatter(31)
	var fields []*field
	everyPlan(func(where string, p api.Plan) { fields = append(fields, open(p, drawLog(pick, p, 9, 0)...)) })
	for i, f := range fields {
		for j, g := range fields {
			hunt.All(f.p, g.s, f.g)
			hunt.All(f.p, f.s, g.g)
			hunt.All(f.p, g.s, fields[(i+j)%len(fields)].g)
		}
		if got := hunt.All(f.p, nil, nil); len(got) != 0 {
			t.Errorf("P1: %s", told(got...))
		}
		hunt.All(f.p, f.s, nil)
		hunt.All(f.p, nil, f.g)
		hunt.All(f.p, &stacks.Stacks{}, &guard.Guards{})
		f.g.Prune(math.MaxInt64)
		hunt.All(f.p, f.s, f.g)
		f.s.Prune(math.MaxInt64)
		hunt.All(f.p, f.s, f.g)
	}
}

// Promise P1: stacks that are told more, or pruned, in the midst of a walk: it ends; events that come behind change nothing of it.
func TestChangesWithinAWalk(t *testing.T) {
	for _, p := range moded("SEQ(A+ a, !C m, A+ b, (A|B)+ c, !D n) WITHIN 99") {
		for bound := range int64(9) {
			f, g := open(p), open(p)
			for i := range int64(8) {
				f.add(ev(i, 0, typeA))
				g.add(ev(i, 0, typeA))
			}
			for range hunt.Each(p, f.s, f.g) {
				f.prune(bound)
			}
			want, at := g.each(), 0
			for b := range hunt.Each(p, g.s, g.g) {
				if at < len(want) && told(b) != told(want[at]) {
					t.Errorf("P1: %s, want %s", told(b), told(want[at]))
				}
				at++
				g.add(ev(100+int64(at), 0, typeC))
			}
			if at != len(want) {
				t.Errorf("P1: %d, want %d", at, len(want))
			}
		}
	}
}

// Promise P1: many events, and few beginnings of bindings or none: the search ends in time, however many bindings could be begun at their end.
func TestDeadEnds(t *testing.T) {
	const many = 3000
	query := "SEQ(A a, B+ b, B+ c, !D n, B+ d, C e) WITHIN 5000"
	for mode, p := range moded(query) {
		f := open(p)
		for i := range int64(many) { // no A at all
			f.add(ev(i, 0, int(1+i%2), i))
			if got := f.all(); len(got) != 0 {
				t.Fatalf("13.3: mode %d: %s", mode, told(got...))
			}
		}
		f.add(ev(many, 0, typeA)) // one behind all Bs
		for i := range int64(100) {
			f.add(ev(many+1, uint64(i), typeC))
			if got := f.all(); len(got) != 0 {
				t.Fatalf("13.3: mode %d: %s", mode, told(got...))
			}
		}
		f = open(p)
		f.add(ev(0, 0, typeA)) // one too far ahead
		for i := range int64(many) {
			f.add(ev(5001+i, 0, int(1+i%2)))
			if got := f.all(); len(got) != 0 {
				t.Fatalf("13.3: mode %d: %s", mode, told(got...))
			}
		}
		f = open(p)
		for i := range int64(2) { // just two Bs behind the A
			f.add(ev(i, 0, typeA))
			f.add(ev(i, 1, typeB))
		}
		for i := range int64(many) {
			f.add(ev(2+i, 0, typeC))
			if got := f.all(); len(got) != 0 {
				t.Fatalf("13.3: mode %d: %s", mode, told(got...))
			}
		}
	}
	for _, lacking := range []int{typeA, typeD} { // one A where two are wanted, or one D
		p := made("SEQ(A a{2,4}, D b{2,4}, B c{1,4}, B d{2,4}, B e{1,4}, C f) WITHIN 5000")
		f := open(p)
		f.add(ev(0, 0, typeA))
		f.add(ev(0, 1, typeA+typeD-lacking))
		f.add(ev(0, 2, typeD))
		f.add(ev(0, 3, typeA+typeD-lacking))
		for i := range int64(many) {
			f.add(ev(1+i, 0, int(1+i%2)))
			if got := f.all(); len(got) != 0 {
				t.Fatalf("13.3: %s", told(got...))
			}
		}
	}
}

// A branch is given up as soon as a condition is broken that goes through a list event by event: not first when the list is long enough.
func TestBrokenBranches(t *testing.T) {
	const many = 2000
	for query, want := range map[string]int{
		"SEQ(A a{4,4}, B b) WHERE a.x > PREV(a.x) WITHIN 9000":                  0,
		"SEQ(A a{3,4}, B b) WHERE a.x < b.x WITHIN 9000":                        0,
		"SEQ(A a{1,4}, B b) WHERE a.x > PREV(a.x) AND SUM(a.x) > 0 WITHIN 9000": many - 1, // the last one has 0
	} {
		f := open(made(query))
		for i := range int64(many) {
			f.add(ev(i, 0, typeA, many-1-i))
		}
		f.add(ev(many, 0, typeB, 0))
		if got := f.all(); len(got) != want {
			t.Errorf("13.3: %s: %d, want %d", query, len(got), want)
		}
	}
}

// Promise P1: long logs, in which each event completes a few bindings; pruned and not.
func TestLongRows(t *testing.T) {
	const many = 20000
	p := made("SEQ(A a, B b{1,3}, !D n, C c) WHERE b.x > a.x AND n.x = a.x WITHIN 5")
	whole, lean := open(p), open(p)
	count := 0
	for i := range int64(many) {
		e := ev(i, 0, int(i%4), i%3)
		whole.add(e)
		lean.add(e)
		lean.prune(i - 6)
		got := whole.all()
		if !same(got, lean.all()) {
			t.Fatalf("13.7: behind the event %d: %s", i, told(got...))
		}
		count += len(got)
	}
	if count < many/20 || count > many {
		t.Errorf("13.3: %d are found", count)
	}
}

// Promise P1: as many bindings as there may be, in one answer.
func TestManyBindings(t *testing.T) {
	p := made("SEQ(A a, A b, A c, A d) WITHIN 200")
	f := open(p)
	const many = 60
	for i := range int64(many) {
		f.add(ev(i, 0, typeA))
	}
	all := f.all()
	if want := (many - 1) * (many - 2) * (many - 3) / 6; len(all) != want {
		t.Fatalf("13.3: %d, want %d", len(all), want)
	}
	for i := 1; i < len(all); i++ {
		if secondOf(p).order(all[i-1], all[i]) >= 0 {
			t.Fatalf("13.3: %s ahead of %s", told(all[i-1]), told(all[i]))
		}
	}
}

// Promise P1: the longest bindings.
func TestLongBindings(t *testing.T) {
	var items []string
	for i := range api.MaxItems {
		items = append(items, fmt.Sprintf("A v%d{4,4}", i))
	}
	for _, p := range moded("SEQ(" + strings.Join(items, ", ") + ") WHERE v0.x > PREV(v0.x) AND SUM(v9.x) > SUM(v0.x) WITHIN 99") {
		f := open(p)
		for i := range int64(40) {
			if got := f.all(); len(got) != 0 {
				t.Fatalf("13.3: behind %d events: %s", i, told(got...))
			}
			f.add(ev(i, 0, typeA, i))
		}
		if got := f.all(); len(got) != 1 || len(slices.Concat(got[0]...)) != 40 || !slices.Equal(slices.Concat(got[0]...), f.s.Log()) {
			t.Errorf("13.3: %s", told(got...))
		}
	}
}

// Promise P2: the bindings that All and Each answer are new memory, each list by itself: written over and grown they change nothing, not even the walk in which they come up.
func TestWhatIsHandedOutIsNew(t *testing.T) {
	pick := scatter(41)
	everyPlan(func(where string, p api.Plan) {
		for range 8 {
			f := open(p)
			var kept []api.Binding
			var texts []string
			for _, e := range drawLog(pick, p, 9, 0) {
				f.add(e)
				state, want := f.state(), told(f.all()...)
				for _, all := range [][]api.Binding{f.all(), f.each()} {
					for i, b := range all {
						before := told(append(slices.Clone(all[:i]), all[i+1:]...)...)
						scrawl(b)
						if told(append(slices.Clone(all[:i]), all[i+1:]...)...) != before {
							t.Fatalf("P2: %s: two bindings share memory", where)
						}
					}
				}
				for b := range hunt.Each(p, f.s, f.g) {
					scrawl(b)
				}
				for _, b := range f.all() {
					for i := range b { // one list at a time: the others stay
						rest := told(append(slices.Clone(b[:i]), b[i+1:]...))
						scrawl(b[i : i+1 : i+1])
						b[i] = append(b[i], ev(9, 9, 9))
						if told(append(slices.Clone(b[:i]), b[i+1:]...)) != rest {
							t.Fatalf("P2: %s: two lists share memory", where)
						}
					}
				}
				l := f.all()
				clear(append(l, nil)[:cap(l)])
				if got := told(f.all()...); got != want || f.state() != state {
					t.Fatalf("P2: %s: answers written over: %s, want %s", where, got, want)
				}
				for _, b := range f.all() {
					kept, texts = append(kept, b), append(texts, told(b))
				}
			}
			f.prune(3)
			for i, b := range kept {
				if told(b) != texts[i] {
					t.Fatalf("P2: %s: an answer was changed later: %s, was %s", where, told(b), texts[i])
				}
			}
		}
	})
}

// Promise P2: the lists of a match are new memory.
func TestMatchesAreNew(t *testing.T) {
	pick := scatter(43)
	everyPlan(func(where string, p api.Plan) {
		log := drawLog(pick, p, 12, 0)
		b := make(api.Binding, len(p.Comps))
		for comp := range b {
			b[comp] = append(make([]api.Event, 0, 5), log[pick(5):5+pick(7)]...)
		}
		b[0] = append(b[0], log[0])
		for comp := range b {
			b[comp] = append(b[comp], log[pick(len(log))])
		}
		text := fmt.Sprint(b)
		m, other := hunt.Finish(p, b), hunt.Finish(p, b)
		was := fmt.Sprint(other)
		m.Names, m.Lens, m.Vals = append(m.Names, api.Name{}), append(m.Lens, 7), append(m.Vals, api.Val{})
		clear(m.Names[:cap(m.Names)])
		clear(m.Lens[:cap(m.Lens)])
		clear(m.Vals[:cap(m.Vals)])
		if fmt.Sprint(other) != was || fmt.Sprint(hunt.Finish(p, b)) != was || fmt.Sprint(b) != text {
			t.Errorf("P2: %s: a match written over", where)
		}
		scrawl(b)
		if fmt.Sprint(other) != was {
			t.Errorf("P2: %s: a binding written over", where)
		}
	})
}

// Promise P2: the plan, the log and the bindings that are handed in are not changed, nor their spare room.
func TestWhatIsHandedInStays(t *testing.T) {
	pick := scatter(47)
	everyPlan(func(where string, p api.Plan) {
		was := fmt.Sprintf("%+v", p)
		for range 20 {
			log := drawLog(pick, p, 9, 0)
			b := drawBinding(pick, p, log)
			for i := range b {
				b[i] = append(slices.Grow(b[i], 3), ev(9, 9, 9, 9))[:len(b[i])]
			}
			long := append(slices.Clone(log), ev(99, 99, 99), ev(-99, 99, 99))[:len(log)]
			whole := func() string {
				var out strings.Builder
				for _, l := range append(slices.Clone(b), long) {
					fmt.Fprintf(&out, "%+v %d\n", l[:cap(l)], len(l))
				}
				return out.String()
			}
			text := whole()
			hunt.Fits(p, long, b)
			hunt.Finish(p, b)
			open(p, log...).all()
			if whole() != text {
				t.Fatalf("P2: %s: the log or the binding is another one", where)
			}
		}
		if fmt.Sprintf("%+v", p) != was {
			t.Errorf("P2: %s: the plan is another one", where)
		}
	})
}

// answers: what the calls answer to a scattered log, as a text.
func answers(p api.Plan, seed uint64) string {
	pick := scatter(seed)
	var out strings.Builder
	f := open(p)
	log := drawLog(pick, p, 14, 0)
	for i, e := range log {
		f.add(e)
		fmt.Fprintln(&out, told(f.all()...), told(f.each()...))
		b := drawBinding(pick, p, log)
		fmt.Fprintln(&out, hunt.Fits(p, log[:i], b), hunt.Finish(p, b))
		if pick(4) == 0 {
			f.prune(e.Ts - 4)
		}
	}
	return out.String()
}

// Promise P3: the same steps, the same answers, whatever else is asked at that time, of the same plan too.
func TestSameStepsSameAnswers(t *testing.T) {
	var plans []api.Plan
	var want []string
	everyPlan(func(where string, p api.Plan) {
		plans = append(plans, p)
		want = append(want, answers(p, uint64(len(plans))))
	})
	got := make([]string, 3*len(want))
	var group sync.WaitGroup
	for i := range got {
		group.Go(func() { got[i] = answers(plans[i%len(want)], uint64(i%len(want)+1)) })
	}
	group.Wait()
	for i, g := range got {
		if g != want[i%len(want)] {
			t.Errorf("P3: the steps %d are answered otherwise", i%len(want))
		}
	}
}

// Promise P3: stacks of the same log answer the same, whatever they took and dropped before; and questions at the same time do not disturb each other.
func TestQuestionsAtTheSameTime(t *testing.T) {
	pick := scatter(53)
	everyPlan(func(where string, p api.Plan) {
		old := open(p, drawLog(pick, p, 9, -200)...)
		old.prune(-100)
		log := drawLog(pick, p, 12, 0)
		f := open(p, log...)
		for _, e := range log {
			old.add(e)
		}
		want := told(f.all()...)
		if got := told(old.all()...); got != want {
			t.Errorf("P3: %s: %s, want %s", where, got, want)
		}
		var group sync.WaitGroup
		got := make([]string, 4)
		for i := range got {
			group.Go(func() {
				for range 5 {
					got[i] = told(f.all()...)
				}
			})
		}
		group.Wait()
		for _, g := range got {
			if g != want {
				t.Errorf("P3: %s: %s, want %s", where, g, want)
			}
		}
	})
}

// Promise P4: what is refused, and a walk that is broken off, change nothing: of two that are told the same one is asked what it refuses in between.
func TestRefusalsChangeNothing(t *testing.T) {
	pick := scatter(59)
	everyPlan(func(where string, p api.Plan) {
		plain, asked := open(p), open(p)
		log := drawLog(pick, p, 12, 0)
		for i, e := range log {
			plain.add(e)
			asked.add(e)
			state := asked.state()
			for range hunt.Each(p, asked.s, asked.g) {
				break
			}
			for _, b := range []api.Binding{nil, make(api.Binding, len(p.Comps)), make(api.Binding, 99), bind(log...)} {
				if len(b) != len(p.Comps) || len(b[0]) == 0 {
					if m := hunt.Finish(p, b); m.Decide != 0 || len(m.Names)+len(m.Lens)+len(m.Vals) != 0 {
						t.Fatalf("P4: %s: Finish(%s): %+v", where, told(b), m)
					}
					if hunt.Fits(p, log[:i+1], b) {
						t.Fatalf("P4: %s: %s stands", where, told(b))
					}
				}
			}
			if got, want := told(asked.all()...), told(plain.all()...); got != want || asked.state() != state || plain.state() != state {
				t.Fatalf("P4: %s: behind what is refused: %s, want %s", where, got, want)
			}
		}
	})
}

package shard_test

import (
	"fmt"
	"math"
	"slices"
	"strings"
	"sync"
	"testing"

	"sluice/api"
	"sluice/shard"
)

// every asks and tells all that shards can be.
func every(s *shard.Shards, l []api.Event, marks []int64) {
	for i, e := range l {
		s.Step(e)
		s.Tick(marks[i%len(marks)])
		s.Keys()
		s.Kept()
		s.Used()
		s.Waiting()
	}
	s.Close()
	s.Close()
	s.Kept()
}

// wildEvents: of all types and of none, in their order, and some that are not.
func wildEvents() []api.Event {
	var out []api.Event
	for i, ts := range wildTimes {
		for typ := range 4 {
			out = append(out, ev(ts, uint64(typ), typ, int64(i%2), int64(typ)))
		}
		out = append(out, api.Event{Ts: ts, Type: wildNumbers[i%len(wildNumbers)]}, ev(ts, math.MaxUint64, i%4, ts, -ts))
	}
	return out
}

// Promise P1: wild events and marks.
func TestEveryCallEnds(t *testing.T) {
	everyPlan(func(where string, p api.Plan) {
		for from := range wildTimes {
			every(shard.New(p), wildEvents(), wildTimes[from:])
		}
	})
}

// Promise P1: plans that nobody built.
func TestPlansOfOnesOwn(t *testing.T) {
	yes := api.Program{Code: []api.Instr{{Code: api.CodePush, N: 1}}}
	odds := []api.Program{{}, yes, {Code: []api.Instr{{Code: api.CodeAdd}}}, {Code: []api.Instr{{Code: api.CodeLoad, Item: -1, Col: 9}}}, {Code: []api.Instr{{Code: 99}}}}
	all := []bool{true, true, true, true}
	l := wildEvents()
	for _, n := range append([]int{0, 1, 2, 3, 9}, wildNumbers...) {
		for i, program := range odds {
			list := []api.Program{program}
			comp := api.Comp{Item: n, Types: []int{0, 1, 2, n}, Lo: n, Hi: n, Conds: []api.Cond{{Prog: program, Each: n}, {Prog: yes, Each: -1, Prev: true}}}
			wide := api.Comp{Item: 1, Types: []int{2, 1, 0}, Lo: math.MinInt, Hi: 2}
			neg := api.Neg{Item: n, Types: []int{0, 1, 2}, After: n, Before: -n, Rest: list}
			for _, p := range []api.Plan{
				{},
				{Used: all, Schema: schemaOf()},
				{Comps: []api.Comp{wide}, Used: all, Schema: schemaOf(), Query: api.Query{Within: int64(n), After: api.After(n)}},
				{Comps: []api.Comp{comp, wide}, Used: all, Schema: schemaOf(), Negs: []api.Neg{neg, {Before: 2}}, Query: api.Query{Within: 5, Mode: api.Mode(n), After: api.AfterOnce}, Ret: list, Lead: true},
				{Comps: []api.Comp{wide, wide}, Used: all, Schema: schemaOf(), Negs: []api.Neg{{Before: 2, Types: []int{0, 7}, Item: n}, neg}, Cols: []int{n, -1, 8, 0}, Query: api.Query{Within: -5, After: api.AfterPast}, Tail: true},
				{Comps: []api.Comp{wide, comp}, Used: all, Schema: schemaOf(), Fixed: []api.Program{yes}, Cols: []int{0, 1}, Query: api.Query{Within: math.MinInt64, Mode: api.ModeNext, After: api.AfterNext, Items: make([]api.Item, 2)}, Tail: true, Ret: list},
				{Comps: make([]api.Comp, 20), Negs: make([]api.Neg, 20), Used: all, Schema: schemaOf(), Query: api.Query{Within: math.MaxInt64}},
			} {
				s := shard.New(p)
				every(s, l, wildTimes[i:])
				for _, mark := range wildTimes {
					if s, ok := shard.Restore(p, mark, l[24:40], []api.Match{{}}, []api.Name{{}}); ok {
						every(s, l, wildTimes)
					}
					if s, ok := shard.Restore(p, mark, l[24:26], nil, []api.Name{l[24].Name()}); ok {
						every(s, l, wildTimes)
					}
				}
			}
		}
	}
}

// Promise P1: states of wild numbers and lists.
func TestStatesOfOnesOwn(t *testing.T) {
	l := wildEvents()
	wild := []api.Match{{}, {Decide: math.MinInt64, Names: make([]api.Name, 100)}, {Decide: math.MaxInt64, Lens: wildNumbers}, {Names: names("1/1"), Vals: make([]api.Val, 20)}}
	everyAfter("SEQ(A a, (A|B)+ b, !C n) WITHIN 3 PARTITION BY k", func(where string, p api.Plan) {
		for i, mark := range wildTimes {
			for _, kept := range [][]api.Event{nil, {}, l, l[:i], l[i : i+1], l[36:40]} {
				for _, used := range [][]api.Name{nil, {}, {{}}, names("1/1 1/1"), {l[36].Name()}, make([]api.Name, 50)} {
					for j := range wild {
						if s, ok := shard.Restore(p, mark, kept, wild[j:], used); ok {
							t.Errorf("15.8: %s: a wild state is taken at %d: %v", where, mark, s)
						}
					}
					if s, ok := shard.Restore(p, mark, kept, nil, used); ok {
						every(s, l, wildTimes)
					}
				}
			}
		}
	})
}

// Promise P1: a nil list is an empty one, handed in and handed out.
func TestNilLists(t *testing.T) {
	p := made("SEQ(A a, C c, !B n) AFTER NEXT WITHIN 4")
	x := script(t, "SEQ(A a, C c, !B n) AFTER NEXT WITHIN 4", "step 1/1 A, 2/1 C -> true")
	bare := cloned(x.s.Waiting())
	for _, vals := range [][]api.Val{nil, {}} {
		bare[0].Vals = vals
		restores(t, "no results", p, 2, state{x.s.Kept(), bare, []api.Name{}}, 0)
	}
	for _, st := range []state{{}, {[]api.Event{}, []api.Match{}, []api.Name{}}} {
		reopen(t, "nothing", p, 7, st).script("step 8/1 A, 9/1 C -> true", "tick 12 -> 12 8/1,9/1")
	}
}

// Promise P1: long runs, with many matches that are told and that are passed over, end in time: each step takes about as long as its own events and matches do.
func TestLongRuns(t *testing.T) {
	const many = 60000
	for _, after := range []string{"ALL", "NEXT", "PAST", "ONCE"} {
		s := shard.New(made("SEQ(A a, B b) USING STRICT AFTER " + after + " WITHIN 100000000"))
		told := 0
		for i := range int64(many) {
			s.Step(ev(i, 0, int(i%2), 0, 0))
			told += len(s.Tick(i))
		}
		if told != many/2 || len(s.Kept()) != many {
			t.Errorf("15.3: AFTER %s: %d are told, %d events kept", after, told, len(s.Kept()))
		}
		if n := len(s.Used()); n != map[string]int{"NEXT": many / 2, "PAST": 1, "ONCE": many}[after] {
			t.Errorf("15.5: AFTER %s: %d used names", after, n)
		}
	}
	s := shard.New(made("SEQ(A a, !B n) WITHIN 40000 PARTITION BY k")) // each match is killed, and each key is another one
	for i := range int64(many) {
		if s.Step(ev(i, 0, int(i%2), i/2, 0)); i%1000 == 0 && len(s.Tick(i)) > 0 {
			t.Fatalf("15.3: something is told at %d", i)
		}
	}
	if n := len(s.Keys()); n < 20000 || n > 20000+1000 || len(s.Waiting()) > 0 {
		t.Errorf("15.5: %d keys", n)
	}
}

// Promise P1: as many matches as there may be, of which one is told of each.
func TestManyMatches(t *testing.T) {
	const many = 60
	everyAfter("SEQ(A a, A b, A c, !B n) WITHIN 200", func(where string, p api.Plan) {
		s := shard.New(p)
		for i := range int64(many) {
			s.Step(ev(i, 0, typeA, 0, 0))
		}
		l := s.Waiting()
		if want := many * (many - 1) * (many - 2) / 6; len(l) != want || !slices.IsSortedFunc(l, func(a, b api.Match) int { return -map[bool]int{true: 1}[a.Before(b)] }) {
			t.Errorf("15.5: %s: %d wait, want %d", where, len(l), want)
		}
		r, ok := shard.Restore(p, many-1, s.Kept(), l, nil)
		if !ok {
			t.Fatalf("15.9: %s: not restored", where)
		}
		want := map[api.After]int{api.AfterAll: len(l), api.AfterNext: many - 2, api.AfterPast: many / 3, api.AfterOnce: many / 3}[p.Query.After]
		if told, again := s.Tick(1000), r.Close(); len(told) != want || !same(told, again) {
			t.Errorf("15.3: %s: %d are told, %d of those that were restored, want %d", where, len(told), len(again), want)
		}
	})
}

// scrawl writes over a list and its spare room, grows it within that room and beyond it, and writes over that too.
func scrawl[T any](l []T, ink T) {
	all := l[:cap(l)]
	for i := range all {
		all[i] = ink
	}
	for grown := l; len(grown) < cap(l)+3; {
		grown = append(grown, ink)
		clear(grown)
	}
}

func scrawlMatches(l []api.Match) {
	for _, m := range l {
		scrawl(m.Names, api.Name{Ts: -99})
		scrawl(m.Lens, -99)
		scrawl(m.Vals, api.Val{N: -99})
	}
	scrawl(l, api.Match{Decide: -99})
}

// Promise P2: what is answered is new memory: who writes over it and grows it changes nothing that is answered later.
func TestAnswersAreNew(t *testing.T) {
	pick := scatter(71)
	everyPlan(func(where string, p api.Plan) {
		x := open(t, where, p)
		for range 20 {
			if e := drawEvent(pick, p, x.last()); pick(3) > 0 {
				x.step(e)
			} else {
				scrawlMatches(x.tick(drawMark(pick, x.last().Ts)))
			}
			scrawlMatches(x.s.Waiting())
			scrawl(x.s.Kept(), ev(-99, 99, 99, 99, 99))
			scrawl(x.s.Keys(), -99)
			scrawl(x.s.Used(), api.Name{Ts: -99})
			x.asked("written over")
			st := x.state()
			y := reopen(t, where+", restored", p, x.want.mark, st)
			scrawl(st.kept, ev(-99, 99, 99, 99, 99))
			scrawlMatches(st.waiting)
			scrawl(st.used, api.Name{Ts: -99})
			y.asked("handed in and written over")
			if pick(3) == 0 {
				x = y
			}
		}
		scrawlMatches(x.close())
	})
}

// lists: each list of an answer, as one that can be written over and one that can be looked at.
func lists(l []api.Match) (write []func(), look []func() string) {
	for _, m := range l {
		write = append(write, func() { scrawl(m.Names, api.Name{Ts: -99}) }, func() { scrawl(m.Lens, -99) }, func() { scrawl(m.Vals, api.Val{N: -99}) })
		look = append(look,
			func() string { return fmt.Sprint(m.Names[:cap(m.Names)]) }, func() string { return fmt.Sprint(m.Lens[:cap(m.Lens)]) }, func() string { return fmt.Sprint(m.Vals[:cap(m.Vals)]) })
	}
	return write, look
}

// Promise P2: no two lists of one answer share memory, nor of two answers.
func TestListsOfAnswersShareNothing(t *testing.T) {
	for _, query := range []string{"SEQ(A+ a, B b) WITHIN 9 PARTITION BY k RETURN SUM(a.x), b.x", "SEQ(A+ a, B b, !C n) AFTER NEXT WITHIN 9 RETURN b.x"} {
		x := script(t, query, "step 1/1 A 7, 2/1 A 7, 2/2 A 8, 3/1 B 7, 3/2 B 8 -> true")
		all := slices.Concat(x.s.Waiting(), x.s.Waiting())
		all = append(all, x.s.Tick(3)...)
		all = append(all, x.s.Close()...)
		if len(all) < 11 {
			t.Fatalf("%s: %d matches", query, len(all))
		}
		write, look := lists(all)
		for i := range write {
			was := make([]string, len(look))
			for j := range look {
				was[j] = look[j]()
			}
			write[i]()
			for j := range look {
				if j != i && look[j]() != was[j] {
					t.Fatalf("P2: %s: the lists %d and %d share memory", query, i, j)
				}
			}
		}
	}
}

// Promise P2: what is handed in is not changed, nor its spare room; and an event that was taken is another one's no longer.
func TestWhatIsHandedInStays(t *testing.T) {
	pick := scatter(73)
	everyPlan(func(where string, p api.Plan) {
		was := fmt.Sprintf("%+v", p)
		x := open(t, where, p)
		for range 14 {
			x.draw(pick, map[string]int{})
		}
		for range 3 {
			st, mark := x.state().spoilt(pick, p, x.want.mark)
			st.kept = append(slices.Grow(st.kept, 2), ev(99, 99, 0, 0, 0))[:len(st.kept)]
			st.used = append(slices.Grow(st.used, 2), api.Name{Ts: 99})[:len(st.used)]
			st.waiting = append(slices.Grow(st.waiting, 2), api.Match{Decide: 99})[:len(st.waiting)]
			whole := func() string {
				return fmt.Sprintf("%+v %+v %+v", st.kept[:cap(st.kept)], st.waiting[:cap(st.waiting)], st.used[:cap(st.used)])
			}
			text := whole()
			if s, ok := shard.Restore(p, mark, st.kept, st.waiting, st.used); ok {
				s.Tick(mark + 1)
				s.Close()
			}
			if whole() != text {
				t.Fatalf("P2: %s: what was handed in to Restore is another one", where)
			}
		}
		if fmt.Sprintf("%+v", p) != was {
			t.Errorf("P2: %s: the plan is another one", where)
		}
	})
}

// answers: what shards answer to a scattered script, as a text.
func answers(p api.Plan, seed uint64) string {
	pick := scatter(seed)
	s := shard.New(p)
	var out strings.Builder
	last := api.Name{}
	for range 40 {
		if e := drawEvent(pick, p, last); pick(3) > 0 {
			ok := s.Step(e)
			fmt.Fprintln(&out, ok)
			if ok {
				last = e.Name()
			}
		} else {
			fmt.Fprintln(&out, s.Tick(drawMark(pick, last.Ts)))
		}
		fmt.Fprintln(&out, s.Kept(), s.Keys(), s.Used(), s.Waiting())
	}
	fmt.Fprintln(&out, s.Close())
	return out.String()
}

// Promise P3: the same steps, the same answers, however often, whatever goes on beside, of the same plan too: the order in which a map is gone through is not seen.
func TestSameStepsSameAnswers(t *testing.T) {
	var plans []api.Plan
	var want []string
	everyPlan(func(where string, p api.Plan) {
		plans = append(plans, p)
		want = append(want, answers(p, uint64(len(plans))))
	})
	got := make([]string, 4*len(want))
	var group sync.WaitGroup
	for i := range got {
		group.Go(func() { got[i] = answers(plans[i%len(want)], uint64(i%len(want)+1)) })
	}
	group.Wait()
	for i, g := range got {
		if g != want[i%len(want)] {
			t.Errorf("P3: the steps %d are answered otherwise", i%len(want))
		}
	}
}

// Promise P3: two shards of one plan, and of others, in turns, know nothing of each other.
func TestInTurns(t *testing.T) {
	pick := scatter(79)
	counts := map[string]int{}
	var all []*pair
	everyPlan(func(where string, p api.Plan) {
		for i := range 2 {
			all = append(all, open(t, fmt.Sprint(where, ", the ", i), p))
		}
		for range 40 {
			all[max(0, len(all)-4)+pick(min(4, len(all)))].draw(pick, counts)
		}
	})
	for _, x := range all {
		x.asked("in turns")
		x.close()
	}
}

// Promise P4: what is refused changes nothing: of two that are told the same one is told in between what it refuses.
func TestRefusalsChangeNothing(t *testing.T) {
	pick := scatter(83)
	refused := 0
	everyPlan(func(where string, p api.Plan) {
		plain, asked := shard.New(p), open(t, where, p)
		for range 24 {
			for _, e := range []api.Event{drawEvent(pick, p, api.Name{Ts: asked.last().Ts - 1}), ev(asked.want.mark, 99, pick(4), 0, 0), {Ts: asked.last().Ts + 1, Type: -1}, {Ts: math.MaxInt64}} {
				if asked.want.accepts(e) && asked.want.mark < e.Ts && (asked.last().Before(e.Name()) || len(asked.want.taken) == 0) {
					continue
				}
				if asked.step(e) {
					t.Fatalf("15.2: %s: %+v is taken", where, e)
				}
				refused++
			}
			if l := asked.tick(asked.want.mark - 1); len(l) > 0 {
				t.Fatalf("P4: %s: %s", where, spell(l))
			}
			if s, ok := shard.Restore(p, asked.want.mark, asked.s.Kept(), append(asked.s.Waiting(), api.Match{}), nil); ok || s != nil {
				t.Fatalf("P4: %s: Restore: %v, %v", where, s, ok)
			}
			if e := drawEvent(pick, p, asked.last()); pick(3) > 0 {
				if asked.step(e) != plain.Step(e) {
					t.Fatalf("P4: %s: Step(%+v)", where, e)
				}
			} else if mark := drawMark(pick, asked.last().Ts); !same(asked.tick(mark), plain.Tick(mark)) {
				t.Fatalf("P4: %s: Tick(%d)", where, mark)
			}
		}
		if got, want := asked.close(), plain.Close(); !same(got, want) {
			t.Fatalf("P4: %s: Close: %s, want %s", where, spell(got), spell(want))
		}
	})
	if refused < 5000 {
		t.Errorf("P4: %d were refused: too few", refused)
	}
}

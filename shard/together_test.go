package shard_test

import (
	"fmt"
	"maps"
	"slices"
	"testing"

	"sluice/api"
	"sluice/meaning"
	"sluice/plan"
	"sluice/shard"
)

// Every row of a few steps, against the plain search: events at one time and behind each other, of two keys, marks behind, at and ahead of them.
func TestEveryRowOfSteps(t *testing.T) {
	const most = 4
	count := 0
	for _, query := range []string{
		"SEQ(A a, !C n, B b) AFTER NEXT WITHIN 2 PARTITION BY k",
		"SEQ(A a, (A|B) b, !C n) AFTER ONCE WITHIN 2",
		"SEQ(!C n, A a{1,2}, !B m) AFTER PAST WITHIN 1 PARTITION BY k",
	} {
		p := made(query)
		var from func(x *pair, row []int)
		run := func(row []int) *pair {
			x := open(t, fmt.Sprintf("%s, steps %v", query, row), p)
			for i, step := range row {
				x.numbered(step, uint64(i))
			}
			return x
		}
		from = func(x *pair, row []int) {
			if len(row) == most {
				x.close()
				count++
				return
			}
			for step := range steps {
				from(run(append(slices.Clone(row), step)), append(slices.Clone(row), step))
			}
		}
		from(run(nil), nil)
	}
	if want := 3 * steps * steps * steps * steps; count != want {
		t.Errorf("%d rows, want %d", count, want)
	}
}

// steps that are numbered: events of three types at the last one's time and behind it, one of another key, and three marks.
const steps = 8

func (x *pair) numbered(step int, id uint64) {
	x.t.Helper()
	ts := x.last().Ts
	if step < steps-3 {
		x.step([]api.Event{ev(ts, id, typeA, 7, 0), ev(ts+1, id, typeA, 7, 0), ev(ts+1, id, typeB, 7, 0), ev(ts, id, typeC, 7, 0), ev(ts+1, id, typeA, 8, 0)}[step])
		return
	}
	x.tick(ts + int64(step-steps+2))
}

// draw: a scattered step, most often an event; what came up is counted.
func (x *pair) draw(pick func(int) int, counts map[string]int) {
	x.t.Helper()
	if pick(3) > 0 {
		if x.step(drawEvent(pick, x.plan, x.last())) {
			counts["taken"]++
		} else {
			counts["refused"]++
		}
		return
	}
	counts["told"] += len(x.tick(drawMark(pick, x.last().Ts)))
	counts["used"] += len(x.want.used())
	counts["waiting"] += len(x.want.waiting())
	counts["dropped"] += len(x.want.taken) - len(x.want.kept())
	counts["passed over"] += len(x.want.telling()) - len(x.want.told(api.NoMark, end))
	if len(x.want.keys()) == 0 && len(x.want.taken) > 0 {
		counts["no partition left"]++
	}
}

// Promises 15.2 to 15.6 over scattered scripts, against the plain search.
func TestScatteredScripts(t *testing.T) {
	pick := scatter(11)
	counts := map[string]int{}
	everyPlan(func(where string, p api.Plan) {
		for round := range 8 {
			x := open(t, fmt.Sprint(where, ", script ", round), p)
			for range 30 {
				x.draw(pick, counts)
			}
			counts["told by Close"] += len(x.close())
			x.close()
			x.draw(pick, counts)
			x.tick(1000)
			x.step(ev(5000, 0, typeA, 0, 0))
		}
	})
	if err := enough(counts, 500, slices.Collect(maps.Keys(counts))...); err != nil || len(counts) != 9 {
		t.Error(err, counts)
	}
}

// fed: what shards tell that are given events in their order, with marks scattered between them: never one at which a later event would be refused. It is not held against anything on the way.
func fed(t *testing.T, where string, p api.Plan, log []api.Event, pick func(int) int) []api.Match {
	t.Helper()
	s := shard.New(p)
	var told []api.Match
	for i, e := range log {
		for range pick(3) {
			from := e.Ts - 6
			if i > 0 {
				from = log[i-1].Ts - 2
			}
			if from < e.Ts {
				told = append(told, s.Tick(from+int64(pick(int(e.Ts-from))))...)
			}
		}
		if !s.Step(e) {
			t.Fatalf("15.2: %s: %d/%d is refused", where, e.Ts, e.Id)
		}
	}
	for range pick(3) {
		told = append(told, s.Tick(log[len(log)-1].Ts+int64(pick(6)))...)
	}
	return append(told, s.Close()...)
}

// Promise 15.6: all that is told is T(Q, E), in its order, whichever marks are ticked, and how often; without any, at the Close.
func TestMarksDoNotMatter(t *testing.T) {
	pick := scatter(21)
	counts := map[string]int{}
	everyPlan(func(where string, p api.Plan) {
		m := meaning.Of(p.Schema, p.Query)
		for range 6 {
			log := drawLog(pick, p, 16, int64(pick(9)-20))
			want := m.Told(log, m.Matches(log), nil)
			counts["told"] += len(want)
			counts["passed over"] += len(m.Matches(log)) - len(want)
			for round := range 5 {
				draw := pick
				if round == 0 {
					draw = func(int) int { return 0 }
				}
				if got := fed(t, where, p, log, draw); !same(got, want) {
					t.Fatalf("15.6: %s: %s: %s, want %s", where, spellEvents(log), spell(got), spell(want))
				}
			}
		}
	})
	if err := enough(counts, 2000, "told", "passed over"); err != nil {
		t.Error(err)
	}
}

// Promise 15.6: behind a Tick just those are told whose Decide is at most the mark, and they are told of all events that may come still too.
func TestFirm(t *testing.T) {
	pick := scatter(31)
	counts := map[string]int{}
	everyPlan(func(where string, p api.Plan) {
		m := meaning.Of(p.Schema, p.Query)
		log := drawLog(pick, p, 16, 0)
		all := m.Told(log, m.Matches(log), nil)
		for at := range log {
			mark := log[at].Ts + int64(pick(3)-1)
			s := shard.New(p)
			for _, e := range log[:at] {
				s.Step(e)
			}
			for _, e := range log[at:] {
				if e.Ts <= mark {
					s.Step(e)
				}
			}
			want := slices.DeleteFunc(slices.Clone(all), func(m api.Match) bool { return m.Decide > mark })
			got := s.Tick(mark)
			if !same(got, want) {
				t.Fatalf("15.6: %s: %s: Tick(%d): %s, want %s", where, spellEvents(log), mark, spell(got), spell(want))
			}
			counts["told"] += len(got)
			counts["left"] += len(all) - len(got)
		}
	})
	if err := enough(counts, 2000, "told", "left"); err != nil {
		t.Error(err)
	}
}

// Promise 15.7: shards that are given the events of one key alone, and the same marks, tell at each of them what the others tell of that key.
func TestEachKeyByItself(t *testing.T) {
	pick := scatter(41)
	counts := map[string]int{}
	everyPlan(func(where string, p api.Plan) {
		for range 3 {
			log := drawLog(pick, p, 24, 0)
			all, alone := shard.New(p), map[int64]*shard.Shards{}
			keys := map[api.Name]int64{}
			for _, e := range log {
				keys[e.Name()] = plan.Key(p, e)
				alone[plan.Key(p, e)] = shard.New(p)
			}
			of := func(key int64, l []api.Match) []api.Match {
				return slices.DeleteFunc(slices.Clone(l), func(m api.Match) bool { return keys[m.Names[0]] != key })
			}
			compare := func(call string, ask func(s *shard.Shards) []api.Match) {
				l := ask(all)
				left := len(l)
				for key, s := range alone {
					got := ask(s)
					if !same(got, of(key, l)) {
						t.Fatalf("15.7: %s: %s: of the key %d: %s, of all: %s", where, call, key, spell(got), spell(l))
					}
					left -= len(got)
				}
				if left != 0 {
					t.Fatalf("15.7: %s: %s: %d matches of no key", where, call, left)
				}
				counts[call] += len(l)
			}
			for _, e := range log {
				if !all.Step(e) || !alone[keys[e.Name()]].Step(e) {
					t.Fatalf("15.2: %s: %d/%d is refused", where, e.Ts, e.Id)
				}
				compare("Waiting", (*shard.Shards).Waiting)
				if pick(2) == 0 {
					compare("Tick", func(s *shard.Shards) []api.Match { return s.Tick(e.Ts - 1) })
				}
			}
			compare("Close", (*shard.Shards).Close)
		}
	})
	if err := enough(counts, 500, "Waiting", "Tick", "Close"); err != nil {
		t.Error(err)
	}
}

// Promise 15.9: at every step of scattered runs shards are restored from the state; from then on they answer every call as those do that went on, and as others that were restored earlier; their state is the same too, so that they may be restored again.
func TestRecovery(t *testing.T) {
	pick := scatter(51)
	counts := map[string]int{}
	everyPlan(func(where string, p api.Plan) {
		for round := range 4 {
			x := open(t, fmt.Sprint(where, ", script ", round), p)
			var others []*shard.Shards
			each := func(call string, ask func(s *shard.Shards) string) {
				want := ask(x.s)
				for i, s := range others {
					if got := ask(s); got != want {
						t.Fatalf("15.9: %s: restored ahead of the step %d: %s: %s, want %s", x.where, i, call, got, want)
					}
				}
			}
			for range 20 {
				s := x.s
				if len(others) > 0 && pick(2) == 0 {
					s = others[pick(len(others))]
				}
				other, ok := shard.Restore(p, x.want.mark, s.Kept(), s.Waiting(), s.Used())
				if !ok {
					t.Fatalf("15.9: %s: at %d: kept %s; waiting %s; used %s", x.where, x.want.mark, spellEvents(s.Kept()), spell(s.Waiting()), spellNames(s.Used()))
				}
				others = append(others, other)
				counts["waiting"] += len(s.Waiting())
				for _, m := range secondOf(p).m.Matches(s.Kept()) {
					if m.Decide > x.want.mark {
						counts["of what is kept"]++
					}
				}
				counts["killed by what is gone"] = counts["of what is kept"] - counts["waiting"]
				if e, mark := drawEvent(pick, p, x.last()), drawMark(pick, x.last().Ts); pick(3) > 0 {
					each("Step", func(s *shard.Shards) string { return fmt.Sprint(s.Step(e)) })
					x.want.step(e)
				} else {
					each("Tick", func(s *shard.Shards) string { return spell(s.Tick(mark)) })
					counts["told"] += len(x.want.tick(mark))
				}
				each("state", func(s *shard.Shards) string {
					return fmt.Sprint(spellEvents(s.Kept()), ";", s.Keys(), ";", spell(s.Waiting()), ";", spellNames(s.Used()))
				})
				counts["used"] += min(1, len(x.s.Used()))
			}
			x.asked("all of it")
			each("Close", func(s *shard.Shards) string { return spell(s.Close()) })
			each("closed", func(s *shard.Shards) string { return fmt.Sprint(s.Keys(), s.Step(ev(1000, 0, typeA, 0, 0))) })
		}
	})
	if err := enough(counts, 500, "told", "used", "waiting"); err != nil {
		t.Error(err)
	}
	if err := enough(counts, 10, "killed by what is gone"); err != nil {
		t.Error(err)
	}
}

// spoilt: a state of which most often something is changed.
func (st state) spoilt(pick func(int) int, p api.Plan, mark int64) (state, int64) {
	st = state{slices.Clone(st.kept), cloned(st.waiting), slices.Clone(st.used)}
	switch pick(9) {
	case 0:
		mark += int64(pick(5) - 2)
	case 1:
		if n := len(st.kept); n > 0 {
			st.kept = slices.Delete(st.kept, 0, 1+pick(n))
		}
	case 2:
		st.kept = append(st.kept, drawEvent(pick, p, api.Name{Ts: mark + 1}))
	case 3:
		for _, e := range st.kept {
			if pick(3) == 0 {
				st.used = append(st.used, e.Name())
			}
		}
		slices.SortFunc(st.used, func(a, b api.Name) int { return map[bool]int{true: -1, false: 1}[a.Before(b)] })
		if pick(4) > 0 {
			st.used = slices.Compact(st.used)
		}
	case 4, 5:
		st.waiting = slices.DeleteFunc(st.waiting, func(api.Match) bool { return pick(3) == 0 })
	case 6:
		if len(st.waiting) > 0 {
			m := &st.waiting[pick(len(st.waiting))]
			if len(m.Vals) > 0 && pick(2) == 0 {
				m.Vals[0].N++
			} else {
				m.Names[pick(len(m.Names))].Id += uint64(pick(3))
			}
		}
	case 7:
		st.used = st.used[:pick(len(st.used)+1)]
	}
	return st, mark
}

// Promise 15.8 over scattered states, whole and spoilt ones: taken just if the five conditions are so; what is taken then goes on as the paragraph 'Resumed states' says.
func TestScatteredStates(t *testing.T) {
	pick := scatter(61)
	counts := map[string]int{}
	everyPlan(func(where string, p api.Plan) {
		for round := range 12 {
			x := open(t, fmt.Sprint(where, ", script ", round), p)
			for range 12 {
				x.draw(pick, map[string]int{})
			}
			st, mark := x.state().spoilt(pick, p, x.want.mark)
			flaw := flawOf(p, mark, st)
			counts[fmt.Sprint("condition ", flaw)]++
			restores(t, x.where, p, mark, st, flaw)
			if t.Failed() {
				t.FailNow()
			}
			if flaw > 0 {
				continue
			}
			y := reopen(t, x.where+", restored", p, mark, st)
			for range 12 {
				y.draw(pick, counts)
			}
			counts["told by Close"] += len(y.close())
		}
	})
	if err := enough(counts, 60, "condition 0", "condition 2", "condition 3", "condition 4", "condition 5"); err != nil {
		t.Error(err)
	}
	if err := enough(counts, 300, "told", "told by Close", "used", "passed over"); err != nil {
		t.Error(err)
	}
}

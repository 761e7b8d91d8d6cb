package engine_test

import (
	"fmt"
	"maps"
	"slices"
	"strings"
	"testing"

	"sluice/api"
	"sluice/engine"
	"sluice/meaning"
	"sluice/parse"
)

// Every row of a few steps, against the plain search: events that come out of order, of two keys and of no item, marks behind, at and ahead of them.
func TestEveryRowOfSteps(t *testing.T) {
	const most = 4
	count := 0
	for _, query := range []string{
		"PATTERN SEQ(A a, !C n, B b) AFTER NEXT WITHIN 2 PARTITION BY k",
		"PATTERN SEQ(A a, (A|B) b, !C n) AFTER ONCE WITHIN 2",
		"PATTERN SEQ(!C n, A a{1,2}, !B m) AFTER PAST WITHIN 1 PARTITION BY k",
	} {
		var from func(row []int)
		from = func(row []int) {
			x := open(t, query, 3)
			for i, step := range row {
				x.numbered(step, uint64(i))
			}
			if len(row) == most {
				x.flush()
				count++
				return
			}
			for step := range steps {
				from(append(slices.Clone(row), step))
			}
		}
		from(nil)
	}
	if want := 3 * steps * steps * steps * steps; count != want {
		t.Errorf("%d rows, want %d", count, want)
	}
}

// steps that are numbered: events of all types, and three marks.
const steps = 8

func (x *pair) numbered(step int, id uint64) {
	x.t.Helper()
	if step < 5 {
		x.push([]api.Event{ev(1, id, typeA, 7, 0), ev(2, 9, typeA, 7, 0), ev(2, id, typeB, 7, 0), ev(3, id, typeC, 7, 0), ev(0, id, typeA, 8, 0)}[step])
		return
	}
	x.advance(int64(step - 5))
}

// draw: a scattered step, most often an event; what came up is counted.
func (x *pair) draw(pick func(int) int, counts map[string]int) {
	x.t.Helper()
	if pick(3) > 0 {
		counts[fmt.Sprint("push ", int(x.push(drawEvent(pick, x.want.mark))))]++
		return
	}
	l, code := x.advance(drawMark(pick, x.want.mark))
	counts[fmt.Sprint("advance ", int(code))]++
	counts["told"] += len(l)
	counts["used"] += len(x.want.used())
	counts["waiting"] += len(x.want.waiting())
	counts["dropped"] += len(x.want.reached()) - len(x.want.kept())
	counts["passed over"] += len(x.want.ofAll) - len(x.want.told(api.NoMark, end))
	if len(x.want.kept()) == 0 && len(x.want.reached()) > 0 {
		counts["nothing kept"]++
	}
}

var capacities = []int{1, 4, 9, 20, 4096}

// Promises 16.2 to 16.6 over scattered scripts, against the plain search.
func TestScatteredScripts(t *testing.T) {
	pick := scatter(11)
	counts := map[string]int{}
	everyQuery(func(text string) {
		for range 5 {
			x := open(t, text, capacities[pick(len(capacities))])
			for range 40 {
				x.draw(pick, counts)
			}
			l, _ := x.flush()
			counts["told by Flush"] += len(l)
			x.flush()
			x.draw(pick, map[string]int{})
			x.advance(1000)
			x.push(ev(5000, 0, typeA, 0, 0))
		}
	})
	kinds := slices.Collect(maps.Keys(counts))
	if err := enough(counts, 100, kinds...); err != nil || len(kinds) != 17 {
		t.Error(err, counts)
	}
}

// log: events that could all be accepted, no two of one name, in the order of names, so many.
func drawLog(pick func(int) int, many int) []api.Event {
	byName := map[api.Name]api.Event{}
	for len(byName) < many {
		e := ev(int64(pick(1+many*2/3)), uint64(pick(3)), []int{typeA, typeA, typeA, typeB, typeB, typeC, typeD}[pick(7)], int64(pick(2)-1), int64(pick(3)))
		byName[e.Name()] = e
	}
	return inOrder(slices.Collect(maps.Values(byName)))
}

// fed: events are pushed to an engine, and marks given to it between them, so that none comes too late; what is told at each mark and at the end. They come in any order, up to so far ahead of their turn.
func fed(t *testing.T, query string, log []api.Event, marks []int64, pick func(int) int, ahead int64) [][]api.Match {
	t.Helper()
	g := opened(t, query, len(log))
	var out [][]api.Match
	left := slices.Clone(log)
	push := func(is func(e api.Event) bool) {
		var now, later []api.Event
		for _, e := range left {
			if is(e) {
				now = append(now, e)
			} else {
				later = append(later, e)
			}
		}
		left = later
		for _, e := range shuffled(pick, now) {
			if code := g.Push(e); code != api.OK {
				t.Fatalf("16.2: %s: Push(%+v): %d", query, e, int(code))
			}
		}
	}
	for _, mark := range marks {
		push(func(e api.Event) bool { return e.Ts <= mark || e.Ts <= mark+ahead && pick(2) == 0 })
		l, code := g.Advance(mark)
		if code != api.OK {
			t.Fatalf("16.3: %s: Advance(%d): %d", query, mark, int(code))
		}
		out = append(out, l)
	}
	push(func(api.Event) bool { return true })
	l, code := g.Flush()
	if code != api.OK {
		t.Fatalf("16.4: %s: Flush: %d", query, int(code))
	}
	return append(out, l)
}

// meant: the meaning of a query's text.
func meant(query string) *meaning.Meaning {
	q, _, _, _ := parse.Parse(query)
	return meaning.Of(schemaOf(), q)
}

// drawMarks: rising ones, up to about a time.
func drawMarks(pick func(int) int, upTo int64) []int64 {
	var out []int64
	for mark := int64(pick(4) - 2); mark < upTo; mark += int64(pick(4)) {
		out = append(out, mark)
	}
	return out
}

// Promises 16.9, P6: what is told in all is T(Q, A), in its order, however the events come in, and whatever marks there are; and P7: behind each mark just those whose Decide is at most that have been told.
func TestMeaning(t *testing.T) {
	pick := scatter(21)
	counts := map[string]int{}
	everyQuery(func(text string) {
		m := meant(text)
		for range 10 {
			log := drawLog(pick, 18)
			all := m.Matches(log)
			want := m.Told(log, all, nil)
			counts["told"] += len(want)
			counts["passed over"] += len(all) - len(want)
			for range 3 {
				marks := drawMarks(pick, 18)
				got := fed(t, text, log, marks, pick, 9)
				if !same(slices.Concat(got...), want) {
					t.Fatalf("16.9: %s: %s: %s, want %s", text, spellEvents(log), spell(slices.Concat(got...)), spell(want))
				}
				for i, mark := range marks {
					for _, m := range got[i] {
						if m.Decide > mark || i > 0 && m.Decide <= marks[i-1] {
							t.Fatalf("16.9: %s: decided at %d, told at %d", text, m.Decide, mark)
						}
						counts["told at a mark"]++
					}
				}
			}
		}
	})
	if err := enough(counts, 2000, slices.Collect(maps.Keys(counts))...); err != nil {
		t.Error(err)
	}
}

// Promise 16.9, P7: what has been told up to a mark is told of every set that has more events above the mark.
func TestFirm(t *testing.T) {
	pick := scatter(31)
	counts := map[string]int{}
	everyQuery(func(text string) {
		m := meant(text)
		for range 12 {
			log := drawLog(pick, 16)
			mark := int64(2 + pick(7))
			g := opened(t, text, len(log))
			for _, e := range shuffled(pick, log) {
				if e.Ts <= mark || pick(2) == 0 {
					g.Push(e)
				}
			}
			told, _ := g.Advance(mark)
			for _, e := range log {
				if e.Ts > mark {
					g.Push(e) // some are there: they are refused
				}
			}
			all := m.Told(log, m.Matches(log), nil)
			want := slices.DeleteFunc(slices.Clone(all), func(m api.Match) bool { return m.Decide > mark })
			if !same(told, want) {
				t.Fatalf("16.9: %s: %s: Advance(%d): %s, want %s", text, spellEvents(log), mark, spell(told), spell(want))
			}
			rest, _ := g.Flush()
			if !same(slices.Concat(told, rest), all) {
				t.Fatalf("16.9: %s: %s: behind Advance(%d): %s, want %s", text, spellEvents(log), mark, spell(rest), spell(all[len(told):]))
			}
			counts["told"] += len(told)
			counts["left"] += len(rest)
		}
	})
	if err := enough(counts, 1000, "told", "left"); err != nil {
		t.Error(err)
	}
}

// Promise 16.9, P8: in what order events come between two marks does not matter; nor does it whether a mark is given once or in many little ones, for all of it together.
func TestArrivalDoesNotMatter(t *testing.T) {
	pick := scatter(41)
	all := 0
	everyQuery(func(text string) {
		for round := range 4 {
			log, marks := drawLog(pick, 24), drawMarks(pick, 20)
			want := fed(t, text, log, marks, scatter(1), int64(round))
			for seed := range uint64(4) {
				got := fed(t, text, log, marks, scatter(seed), int64(round))
				for i := range want {
					if !same(got[i], want[i]) {
						t.Fatalf("P8: %s: %s: marks %v: the answer %d: %s, want %s", text, spellEvents(log), marks, i, spell(got[i]), spell(want[i]))
					}
					all += len(got[i])
				}
			}
			if got := fed(t, text, log, nil, pick, 0); !same(got[0], slices.Concat(want...)) {
				t.Fatalf("P6: %s: %s: without marks: %s, want %s", text, spellEvents(log), spell(got[0]), spell(slices.Concat(want...)))
			}
		}
	})
	if all < 5000 {
		t.Errorf("P8: %d are told: too few", all)
	}
}

// Promises 16.8 and P11: at every step of scattered runs an engine is resumed from the state; from then on it answers every call as those do that went on, and as others that were resumed earlier; its state is the same too, so that it may be resumed again.
func TestRecovery(t *testing.T) {
	pick := scatter(51)
	counts := map[string]int{}
	everyQuery(func(text string) {
		for range 2 {
			x := open(t, text, capacities[pick(len(capacities))])
			all := []*engine.Engine{x.g}
			each := func(call string, ask func(g *engine.Engine) string) {
				want := ask(x.g)
				for i, g := range all[1:] {
					if got := ask(g); got != want {
						t.Fatalf("16.8: %s: resumed ahead of the step %d: %s:\n%s, want\n%s", text, i, call, got, want)
					}
				}
			}
			for range 24 {
				st := all[pick(len(all))].State()
				g, code := engine.Resume(st)
				if code != api.OK {
					t.Fatalf("16.8: %s: Resume(%s): %d", text, whole(st), int(code))
				}
				all = append(all, g)
				counts["waiting"] += len(st.Waiting)
				counts["held"] += len(st.Held)
				counts["used"] += len(st.Used)
				if flawOf(st) != 0 {
					t.Fatalf("16.8: %s: a state that cannot be: %s", text, whole(st))
				}
				for _, m := range x.want.m.Matches(st.Kept) {
					if m.Decide > st.Mark {
						counts["of what is kept"]++
					}
				}
				if e, mark := drawEvent(pick, st.Mark), drawMark(pick, st.Mark); pick(3) > 0 {
					each("Push", func(g *engine.Engine) string { return fmt.Sprint(int(g.Push(e))) })
					x.want.push(e)
				} else {
					each("Advance", func(g *engine.Engine) string { return told(g.Advance(mark)) })
					l, _ := x.want.advance(mark)
					counts["told"] += len(l)
				}
				each("state", func(g *engine.Engine) string { return whole(g.State()) + fmt.Sprint(g.Sizes()) })
			}
			x.asked("all of it")
			each("Flush", func(g *engine.Engine) string { return told(g.Flush()) })
			each("closed", func(g *engine.Engine) string { return whole(g.State()) + told(g.Flush()) })
			if g, code := engine.Resume(x.g.State()); code != api.OK || !g.Sizes().Closed {
				t.Fatalf("16.8: %s: Resume of a closed one: %d", text, int(code))
			}
		}
	})
	counts["killed by what is gone"] = counts["of what is kept"] - counts["waiting"]
	if err := enough(counts, 300, "told", "used", "waiting", "held"); err != nil {
		t.Error(err)
	}
	if err := enough(counts, 10, "killed by what is gone"); err != nil {
		t.Error(err)
	}
}

// spoilt: a state of which something is changed.
func spoilt(pick func(int) int, st api.State) api.State {
	st = copyOf(st)
	switch pick(13) {
	case 0:
		st.Mark += int64(pick(7) - 3)
	case 1:
		if n := len(st.Kept); n > 0 {
			st.Kept = slices.Delete(st.Kept, 0, 1+pick(n))
		}
	case 2:
		st.Kept = append(st.Kept, drawEvent(pick, st.Mark-2))
	case 3:
		for _, e := range st.Kept {
			if pick(3) == 0 {
				st.Used = append(st.Used, e.Name())
			}
		}
		slices.SortFunc(st.Used, compareNames)
		if pick(4) > 0 {
			st.Used = slices.Compact(st.Used)
		}
	case 4:
		st.Waiting = slices.DeleteFunc(st.Waiting, func(api.Match) bool { return pick(3) == 0 })
	case 5:
		if len(st.Waiting) > 0 {
			m := &st.Waiting[pick(len(st.Waiting))]
			if len(m.Vals) > 0 && pick(2) == 0 {
				m.Vals[0].N++
			} else {
				m.Names[pick(len(m.Names))].Id += uint64(pick(3))
			}
		}
	case 6:
		st.Used = st.Used[:pick(len(st.Used)+1)]
	case 7:
		st.Held = append(st.Held, drawEvent(pick, st.Mark+2))
	case 8:
		st.Held = shuffled(pick, st.Held)
	case 9:
		st.Cap = pick(8) - 3
	case 10:
		st.Closed = true
	case 11:
		st.Query.Within += int64(pick(5) - 2)
	case 12:
		st.Query.Items[pick(len(st.Query.Items))].Types = []string{"A", "B", "E"}[:1+pick(3)]
	}
	return st
}

// Promise 16.7 over scattered states, whole and spoilt ones: taken just if the seven points are so; what is taken then goes on as the paragraph 'Resumed states' says.
func TestScatteredStates(t *testing.T) {
	pick := scatter(61)
	counts := map[string]int{}
	everyQuery(func(text string) {
		for round := range 14 {
			x := open(t, text, capacities[1+pick(len(capacities)-1)])
			for range 14 {
				x.draw(pick, map[string]int{})
			}
			st := spoilt(pick, x.g.State())
			flaw := flawOf(st)
			counts[fmt.Sprint("point ", flaw)]++
			where := fmt.Sprint(text, ", script ", round)
			resumes(t, where, st, flaw)
			if flaw > 0 {
				continue
			}
			y := reopen(t, where, st)
			for range 14 {
				y.draw(pick, counts)
			}
			l, _ := y.flush()
			counts["told by Flush"] += len(l)
		}
	})
	if err := enough(counts, 30, "point 0", "point 1", "point 2", "point 4", "point 5", "point 6", "point 7"); err != nil {
		t.Error(err)
	}
	if err := enough(counts, 300, "told", "told by Flush", "used", "passed over"); err != nil {
		t.Error(err)
	}
}

// Promises 16.1 and P9 over scattered texts, whole ones and such as have a word left out, put in or changed: a fault stands within its text, and the engine of a text without one has just that query.
func TestScatteredTexts(t *testing.T) {
	pick := scatter(71)
	words := strings.Fields("A a B k type ( ) , + ! = 1 99999999999999 WITHIN PARTITION BY NOT AND SEQ RETURN COUNT . { } ? USING zz")
	change := func(text string) string {
		l := strings.Fields(text)
		for range pick(3) {
			at := pick(len(l))
			switch pick(3) {
			case 0:
				l = slices.Insert(l, at, words[pick(len(words))])
			case 1:
				l[at] = words[pick(len(words))]
			case 2:
				if l = slices.Delete(l, at, at+1); len(l) == 0 {
					return ""
				}
			}
		}
		return strings.Join(l, " ")
	}
	counts := map[string]int{}
	everyQuery(func(text string) {
		for range 60 {
			s, q, capacity := schema, change(text), []int{-1, 0, 1, 2, 7, 4096, 4097}[pick(7)]
			if pick(5) == 0 {
				s = change(strings.NewReplacer("(", " ( ", ")", " ) ", ",", " , ").Replace(schema))
			}
			g, f := engine.Open(s, q, capacity)
			if want := faultOf(s, q, capacity); f != want || (g == nil) != (f != api.Fault{}) {
				t.Fatalf("16.1: Open(%q, %q, %d): %v, %+v, want %+v", s, q, capacity, g != nil, f, want)
			}
			counts[fmt.Sprint("where ", f.Where)]++
			if longest := []int{0, len(s), len(q), 0}[f.Where]; f.At < 0 || f.At > longest {
				t.Fatalf("P9: Open(%q, %q, %d): the place %d", s, q, capacity, f.At)
			}
			if g == nil {
				continue
			}
			if st := g.State(); !strings.EqualFold(strings.Join(strings.Fields(printed(st.Query)), " "), printed(st.Query)) || st.Cap != capacity {
				t.Fatalf("16.6: %q: %s", q, whole(st))
			} else if again, _, code, _ := parse.Parse(printed(st.Query)); code != api.OK || fmt.Sprintf("%+v", again) != fmt.Sprintf("%+v", st.Query) {
				t.Fatalf("P9: %q is printed as %q: %d", q, printed(st.Query), int(code))
			}
		}
	})
	if err := enough(counts, 200, "where 0", "where 1", "where 2", "where 3"); err != nil {
		t.Error(err, counts)
	}
}

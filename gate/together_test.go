package gate_test

import (
	"fmt"
	"slices"
	"testing"

	"sluice/api"
	"sluice/gate"
)

// Every row of a few steps, against the second gate: pushes of a few names that bear their step as a sign, marks, a Flush.
func TestEveryRowOfSteps(t *testing.T) {
	const most = 5
	steps := []func(p *pair, sign int){
		func(p *pair, sign int) { p.push(ev(0, 1, sign)) },
		func(p *pair, sign int) { p.push(ev(1, 0, sign)) },
		func(p *pair, sign int) { p.push(ev(1, 1, sign)) },
		func(p *pair, sign int) { p.push(ev(2, 0, sign)) },
		func(p *pair, sign int) { p.advance(0) },
		func(p *pair, sign int) { p.advance(1) },
		func(p *pair, sign int) { p.advance(2) },
		func(p *pair, sign int) { p.flush() },
	}
	var row []int
	var from func()
	from = func() {
		if len(row) == most {
			p := open(t, fmt.Sprint("steps ", row), 2)
			for sign, step := range row {
				steps[step](p, sign)
			}
			return
		}
		for step := range steps {
			row = append(row, step)
			from()
			row = row[:len(row)-1]
		}
	}
	from()
}

// Scattered steps of all kinds, against the second gate. Each code comes up.
func TestScatteredSteps(t *testing.T) {
	pick := scatter(21)
	seen := map[api.Errno]int{}
	for round := range 500 {
		p := open(t, fmt.Sprint("script ", round), 1+pick(20))
		for sign := range 60 {
			if pick(3) > 0 {
				p.draw(pick, sign)
				continue
			}
			seen[p.push(drawEvent(pick, p.want.mark, sign))]++
		}
	}
	for _, code := range []api.Errno{api.OK, api.ErrClosed, api.ErrRange, api.ErrLate, api.ErrTwice, api.ErrFull} {
		if seen[code] < 100 {
			t.Errorf("Push has answered %d just %d times: %v", code, seen[code], seen)
		}
	}
}

// rising: is each event before the next one?
func rising(l []api.Event) bool {
	for i := 1; i < len(l); i++ {
		if l[i].Ts < l[i-1].Ts || l[i].Ts == l[i-1].Ts && l[i].Id <= l[i-1].Id {
			return false
		}
	}
	return true
}

// Promise 10.6: pushes in any order and rising marks: all lists, one behind the other, are rising; behind a Flush they are all that was accepted, as a plain list of them that is sorted.
func TestOrder(t *testing.T) {
	pick := scatter(31)
	long := 0
	for range 400 {
		g := opened(t, 1+pick(60))
		var accepted, told []api.Event
		mark := int64(-3)
		for sign := range 200 {
			if e := drawEvent(pick, mark, sign); g.Push(e) == api.OK {
				accepted = append(accepted, e)
			}
			if pick(6) == 0 {
				mark += int64(pick(4))
				l, code := g.Advance(mark)
				if code != api.OK {
					t.Fatalf("10.3: Advance(%d): %d", mark, code)
				}
				told = append(told, l...)
			}
			if !rising(told) || !rising(append(slices.Clone(told), g.Held()...)) || len(told)+g.Len() != len(accepted) {
				t.Fatalf("10.6: %s, held: %s", shown(told), shown(g.Held()))
			}
		}
		l, _ := g.Flush()
		told = append(told, l...)
		if want := inOrder(accepted); !slices.Equal(told, want) {
			t.Fatalf("10.6: %s, want %s", shown(told), shown(want))
		}
		long = max(long, len(told))
	}
	if long < 80 {
		t.Errorf("10.6: the longest row has %d events: too few", long)
	}
}

// turn: what is pushed ahead of a mark, all of it above the mark before.
type turn struct {
	events []api.Event
	mark   int64
}

// script: a few turns with rising marks; no two events have one name.
func script(pick func(int) int) []turn {
	var out []turn
	mark := int64(-5)
	seen := map[api.Name]int{}
	for range 1 + pick(8) {
		var events []api.Event
		for sign := range pick(12) {
			e := ev(mark+1+int64(pick(15)), uint64(pick(3)), sign)
			if seen[e.Name()]++; seen[e.Name()] == 1 {
				events = append(events, e)
			}
		}
		mark += int64(pick(7))
		out = append(out, turn{events, mark})
	}
	return out
}

// run: what each Advance and the Flush answer, the events of each turn told in an order of their own.
func run(t *testing.T, g *gate.Gate, turns []turn, order func([]api.Event) []api.Event) [][]api.Event {
	t.Helper()
	var out [][]api.Event
	for _, u := range turns {
		pushed(t, g, api.OK, order(u.events)...)
		l, code := g.Advance(u.mark)
		if code != api.OK {
			t.Fatalf("10.3: Advance(%d): %d", u.mark, code)
		}
		out = append(out, l)
	}
	l, _ := g.Flush()
	return append(out, l)
}

// wanted: the same by a plain list of all events that is sorted and cut at the marks.
func wanted(turns []turn) [][]api.Event {
	var all []api.Event
	for _, u := range turns {
		all = append(all, u.events...)
	}
	all = inOrder(all)
	var out [][]api.Event
	for _, u := range turns {
		cut := 0
		for cut < len(all) && all[cut].Ts <= u.mark {
			cut++
		}
		out = append(out, all[:cut])
		all = all[cut:]
	}
	return append(out, all)
}

func sameLists(a, b [][]api.Event) bool { return slices.EqualFunc(a, b, slices.Equal) }

// Promise 10.7: the order in which events come between two marks does not matter.
func TestArrivalDoesNotMatter(t *testing.T) {
	pick := scatter(41)
	for range 400 {
		turns := script(pick)
		want := wanted(turns)
		orders := []func([]api.Event) []api.Event{
			slices.Clone[[]api.Event],
			inOrder,
			func(l []api.Event) []api.Event {
				l = inOrder(l)
				slices.Reverse(l)
				return l
			},
			func(l []api.Event) []api.Event { return shuffled(pick, l) },
			func(l []api.Event) []api.Event { return shuffled(pick, l) },
		}
		for i, order := range orders {
			if got := run(t, opened(t, 200), turns, order); !sameLists(got, want) {
				t.Fatalf("10.7: order %d: %v, want %v", i, got, want)
			}
		}
	}
}

// Promise 10.7: every order of a few events.
func TestEveryArrival(t *testing.T) {
	l := list(ev(1, 0, 1), ev(1, 1, 2), ev(1, 1<<63, 3), ev(2, 0, 4), ev(4, 0, 5), ev(4, 7, 6))
	tried := 0
	var from func(place int)
	from = func(place int) {
		if place == len(l) {
			g := opened(t, len(l))
			pushed(t, g, api.OK, l...)
			want := inOrder(l)
			tells(t, g, api.NoMark, false, want...)
			advanced(t, g, 1, api.OK, want[:3]...)
			advanced(t, g, 3, api.OK, want[3:4]...)
			flushed(t, g, api.OK, want[4:]...)
			tried++
			return
		}
		for i := place; i < len(l); i++ {
			l[place], l[i] = l[i], l[place]
			from(place + 1)
			l[place], l[i] = l[i], l[place]
		}
	}
	from(0)
	if tried != 720 {
		t.Errorf("%d orders of six events", tried)
	}
}

// Promise 10.7: two calls of Advance, one behind the other, let through together what the second alone would have; so do many, and so do Advance and Flush.
func TestAdvancesTogether(t *testing.T) {
	pick := scatter(51)
	for range 400 {
		one, many := opened(t, 64), opened(t, 64)
		for range 6 {
			for sign := range pick(10) {
				e := drawEvent(pick, one.Mark(), sign)
				if a, b := one.Push(e), many.Push(e); a != b {
					t.Fatalf("10.7: Push(%d/%d): %d and %d", e.Ts, e.Id, a, b)
				}
			}
			mark := max(one.Mark(), -5)
			var together []api.Event
			for range 1 + pick(4) {
				mark += int64(pick(4))
				l, _ := many.Advance(mark)
				together = append(together, l...)
			}
			advanced(t, one, mark, api.OK, together...)
			tells(t, one, mark, false, many.Held()...)
		}
		l, _ := many.Advance(many.Mark() + int64(pick(6)))
		last, _ := many.Flush()
		flushed(t, one, api.OK, append(l, last...)...)
	}
}

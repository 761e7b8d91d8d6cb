package gate_test

import (
	"fmt"
	"slices"
	"testing"

	"sluice/api"
	"sluice/gate"
)

// list: a few events.
func list(l ...api.Event) []api.Event { return l }

// restored: does Restore answer so? Where it answers a gate, it tells what it was given.
func restored(t *testing.T, want api.Errno, capacity int, mark int64, closed bool, held []api.Event) *gate.Gate {
	t.Helper()
	g, code := gate.Restore(capacity, mark, closed, held)
	if code != want || (g == nil) != (want != api.OK) {
		t.Fatalf("10.8: Restore(%d, %d, %v, %s): %v, %d, want %d", capacity, mark, closed, shown(held), g, code, want)
	}
	if g != nil {
		tells(t, g, mark, closed, held...)
	}
	return g
}

// The chapter's examples.
func TestExamplesOfRestore(t *testing.T) {
	held := [][]api.Event{list(at(6, 2), at(6, 1)), list(at(6, 1), at(6, 1)), list(at(5, 1)), list(at(6, 1), at(6, 2), at(6, 3))}
	restored(t, api.OK, 2, 5, false, list(at(6, 1), at(6, 2)))
	restored(t, api.ErrCap, 0, 5, false, list(at(6, 1), at(6, 2)))
	for _, l := range held {
		restored(t, api.ErrHeld, 2, 5, false, l)
		restored(t, api.ErrCap, 0, 5, false, l)
	}
	g := restored(t, api.OK, 2, api.MaxTs, true, nil)
	pushed(t, g, api.ErrClosed, at(6, 1))
	advanced(t, g, api.MaxTs, api.ErrClosed)
	flushed(t, g, api.ErrClosed)
	restored(t, api.ErrMark, 2, 5, true, nil)
	g = restored(t, api.OK, 2, api.MaxTs, false, nil)
	pushed(t, g, api.ErrLate, at(6, 1), at(api.MaxTs, 1))
	advanced(t, g, api.MaxTs, api.OK)
	flushed(t, g, api.OK)
	tells(t, g, api.MaxTs, true)
}

// Promise 10.8: the capacities, ahead of all else that may be wrong.
func TestCapacitiesOfRestore(t *testing.T) {
	bad := list(at(6, 2), at(6, 1), at(4, 1))
	for _, capacity := range wildCapacities {
		if capacity >= 1 && capacity <= 4096 {
			restored(t, api.OK, capacity, 5, false, list(at(6, 1)))
			continue
		}
		for _, mark := range wildTimes {
			for _, closed := range []bool{false, true} {
				restored(t, api.ErrCap, capacity, mark, closed, nil)
				restored(t, api.ErrCap, capacity, mark, closed, bad)
			}
		}
	}
}

// Promise 10.8: the marks, ahead of what may be wrong with the events.
func TestMarksOfRestore(t *testing.T) {
	bad := list(at(6, 2), at(6, 1), at(api.MinTs-1, 1))
	for _, mark := range wildTimes {
		want := api.OK
		if mark < api.NoMark || mark > api.MaxTs {
			want = api.ErrMark
		}
		restored(t, want, 2, mark, false, nil)
		restored(t, want, 2, mark, false, list())
		if want == api.ErrMark {
			restored(t, api.ErrMark, 2, mark, false, bad)
		} else {
			restored(t, api.ErrHeld, 2, mark, false, bad)
		}
		if mark != api.MaxTs {
			restored(t, api.ErrMark, 2, mark, true, nil)
			restored(t, api.ErrMark, 2, mark, true, bad)
			restored(t, api.ErrMark, 2, mark, true, list(at(6, 1)))
		}
	}
}

// Promise 10.8: a closed gate holds nothing.
func TestClosedGatesOfRestore(t *testing.T) {
	restored(t, api.OK, 2, api.MaxTs, true, nil)
	restored(t, api.OK, 2, api.MaxTs, true, list())
	for _, ts := range wildTimes {
		restored(t, api.ErrHeld, 2, api.MaxTs, true, list(at(ts, 1)))
		restored(t, api.ErrHeld, 2, api.MaxTs, false, list(at(ts, 1)))
	}
}

// Promise 10.8: every order of a few events but the rising one is refused, and every list with a name twice.
func TestOrdersOfHeldEvents(t *testing.T) {
	names := list(ev(6, 0, 4), ev(6, 1, 3), ev(6, 1<<63, 2), ev(7, 0, 1), ev(9, 5, 0))
	taken := 0
	var from func(l []api.Event)
	from = func(l []api.Event) {
		if len(l) == 4 {
			want := api.ErrHeld
			if rising(l) {
				want = api.OK
				taken++
			}
			restored(t, want, 4, 5, false, l)
			return
		}
		for _, e := range names {
			from(append(slices.Clone(l), e))
		}
	}
	from(nil)
	if taken != 5 {
		t.Errorf("10.8: %d lists of four are taken, want 5", taken)
	}
	restored(t, api.ErrHeld, 4, 5, false, list(ev(6, 1, 3), ev(6, 1, 4))) // one name, other contents
	restored(t, api.ErrHeld, 4, 5, false, list(ev(6, 1, 4), ev(6, 1, 3)))
}

// Promise 10.8: timestamps at the mark, one above and one below it, and at and above MaxTs, at each place of the list.
func TestTimestampsOfHeldEvents(t *testing.T) {
	for _, mark := range []int64{api.NoMark, api.MinTs, -3, 0, 5, api.MaxTs - 1} {
		restored(t, api.OK, 3, mark, false, list(at(mark+1, 0)))
		restored(t, api.OK, 3, mark, false, list(at(mark+1, 0), at(mark+1, 1<<64-1)))
		restored(t, api.OK, 3, mark, false, list(at(mark+1, 0), at(api.MaxTs, 1), at(api.MaxTs, 1<<64-1)))
		for _, ts := range []int64{mark, mark - 1, api.NoMark, -1 << 63} {
			restored(t, api.ErrHeld, 3, mark, false, list(at(ts, 1<<64-1)))
			restored(t, api.ErrHeld, 3, mark, false, list(at(ts, 0), at(api.MaxTs, 5)))
		}
		for _, ts := range []int64{api.MaxTs + 1, 1<<63 - 1} {
			restored(t, api.ErrHeld, 3, mark, false, list(at(ts, 0)))
			restored(t, api.ErrHeld, 3, mark, false, list(at(mark+1, 0), at(ts, 0)))
			restored(t, api.ErrHeld, 3, mark, false, list(at(mark+1, 0), at(ts, 0), at(ts, 1)))
		}
	}
}

// Promise 10.8: as many events as the capacity says, and one more.
func TestHowManyAreHeld(t *testing.T) {
	var all []api.Event
	for i := range api.MaxCap + 1 {
		all = append(all, ev(int64(i/4), uint64(i%4), i))
	}
	for _, capacity := range []int{1, 2, 3, 50, api.MaxCap} {
		restored(t, api.ErrHeld, capacity, -1, false, all[:capacity+1])
		restored(t, api.ErrHeld, capacity, -1, false, all)
		g := restored(t, api.OK, capacity, -1, false, all[:capacity])
		pushed(t, g, api.ErrFull, all[capacity])
		pushed(t, g, api.ErrTwice, all[:capacity]...)
		advanced(t, g, 0, api.OK, all[:min(capacity, 4)]...)
		pushed(t, g, api.OK, ev(api.MaxTs, 7, 7))
		flushed(t, g, api.OK, append(slices.Clone(all[min(capacity, 4):capacity]), ev(api.MaxTs, 7, 7))...)
	}
}

// Later calls of a gate that was restored from plain data.
func TestLaterCallsOfARestoredGate(t *testing.T) {
	g := restored(t, api.OK, 3, 5, false, list(ev(6, 1, 2), ev(8, 2, 3)))
	pushed(t, g, api.ErrTwice, at(6, 1), at(8, 2))
	pushed(t, g, api.ErrLate, at(5, 9), at(api.MinTs, 0))
	advanced(t, g, 4, api.ErrBack)
	pushed(t, g, api.OK, at(6, 0))
	pushed(t, g, api.ErrFull, at(7, 0))
	tells(t, g, 5, false, at(6, 0), ev(6, 1, 2), ev(8, 2, 3))
	advanced(t, g, 6, api.OK, at(6, 0), ev(6, 1, 2))
	pushed(t, g, api.OK, at(7, 0))
	flushed(t, g, api.OK, at(7, 0), ev(8, 2, 3))

	first := restored(t, api.OK, 1, api.NoMark, false, list(at(api.MinTs, 1)))
	pushed(t, first, api.ErrTwice, at(api.MinTs, 1))
	advanced(t, first, api.MinTs, api.OK, at(api.MinTs, 1))
}

// Promise 10.8: a gate that is restored from another one's capacity, Mark, Closed and Held, at any time, answers every later call as the other one does; and so does one that is restored from that.
func TestRestoredGatesAnswerAsTheOther(t *testing.T) {
	pick := scatter(11)
	closed, full := 0, 0
	for round := range 600 {
		p := open(t, fmt.Sprint("script ", round), 1+pick(12))
		for sign := range pick(30) {
			p.draw(pick, sign)
		}
		if p.want.closed {
			closed++
		}
		if p.gate.Len() == p.want.capacity {
			full++
		}
		gates := []*pair{p, p.again(), p.again().again()}
		for sign := range 30 {
			seed := uint64(pick(1 << 20))
			for _, g := range gates {
				g.draw(scatter(seed), sign)
			}
			if pick(6) == 0 {
				gates[pick(2)+1] = gates[pick(3)].again()
			}
		}
	}
	if closed < 50 || full < 50 {
		t.Errorf("10.8: %d closed gates and %d full ones: too few", closed, full)
	}
}

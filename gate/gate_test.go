package gate_test

import (
	"fmt"
	"slices"
	"testing"

	"sluice/api"
	"sluice/gate"
)

// opened: a new gate, without a second one beside it.
func opened(t *testing.T, capacity int) *gate.Gate {
	t.Helper()
	g, code := gate.New(capacity)
	if g == nil || code != api.OK {
		t.Fatalf("10.1: New(%d): %v, %d", capacity, g, code)
	}
	return g
}

// pushed: does Push answer so, each time?
func pushed(t *testing.T, g *gate.Gate, want api.Errno, l ...api.Event) {
	t.Helper()
	for _, e := range l {
		if code := g.Push(e); code != want {
			t.Errorf("10.2: Push(%d/%d): %d, want %d", e.Ts, e.Id, code, want)
		}
	}
}

// advanced: does Advance answer so?
func advanced(t *testing.T, g *gate.Gate, mark int64, want api.Errno, l ...api.Event) {
	t.Helper()
	if got, code := g.Advance(mark); code != want || !slices.Equal(got, l) {
		t.Errorf("10.3: Advance(%d): %s, %d, want %s, %d", mark, shown(got), code, shown(l), want)
	}
}

// flushed: does Flush answer so?
func flushed(t *testing.T, g *gate.Gate, want api.Errno, l ...api.Event) {
	t.Helper()
	if got, code := g.Flush(); code != want || !slices.Equal(got, l) {
		t.Errorf("10.4: Flush: %s, %d, want %s, %d", shown(got), code, shown(l), want)
	}
}

// tells: does the gate tell so, twice in a row?
func tells(t *testing.T, g *gate.Gate, mark int64, closed bool, held ...api.Event) {
	t.Helper()
	for range 2 {
		if g.Mark() != mark || g.Closed() != closed || g.Len() != len(held) || !slices.Equal(g.Held(), held) {
			t.Errorf("10.5: %d, %v, %d, %s, want %d, %v, %s", g.Mark(), g.Closed(), g.Len(), shown(g.Held()), mark, closed, shown(held))
		}
	}
}

// The chapter's table.
func TestExamples(t *testing.T) {
	g := opened(t, 3)
	tells(t, g, -1152921504606846977, false)
	pushed(t, g, api.OK, at(10, 1), at(5, 9), at(5, 2))
	pushed(t, g, api.ErrTwice, at(5, 9))
	pushed(t, g, api.ErrFull, at(7, 1))
	tells(t, g, api.NoMark, false, at(5, 2), at(5, 9), at(10, 1))
	advanced(t, g, 4, api.OK)
	tells(t, g, 4, false, at(5, 2), at(5, 9), at(10, 1))
	advanced(t, g, 3, api.ErrBack)
	tells(t, g, 4, false, at(5, 2), at(5, 9), at(10, 1))
	advanced(t, g, 5, api.OK, at(5, 2), at(5, 9))
	tells(t, g, 5, false, at(10, 1))
	pushed(t, g, api.ErrLate, at(5, 9))
	pushed(t, g, api.OK, at(6, 9))
	advanced(t, g, 5, api.OK)
	tells(t, g, 5, false, at(6, 9), at(10, 1))
	advanced(t, g, 1152921504606846977, api.ErrMark)
	pushed(t, g, api.ErrRange, at(1152921504606846977, 1))
	tells(t, g, 5, false, at(6, 9), at(10, 1))
	flushed(t, g, api.OK, at(6, 9), at(10, 1))
	tells(t, g, 1152921504606846976, true)
	pushed(t, g, api.ErrClosed, at(20, 1), at(1152921504606846977, 1))
	advanced(t, g, 3, api.ErrClosed)
	flushed(t, g, api.ErrClosed)
	tells(t, g, 1152921504606846976, true)
}

// Promise 10.1: the capacities.
func TestNew(t *testing.T) {
	for _, capacity := range wildCapacities {
		if capacity >= 1 && capacity <= 4096 {
			tells(t, opened(t, capacity), api.NoMark, false)
		} else if g, code := gate.New(capacity); g != nil || code != api.ErrCap {
			t.Errorf("10.1: New(%d): %v, %d", capacity, g, code)
		}
	}
}

// Promise 10.1: a gate holds just as many events as its capacity says.
func TestCapacities(t *testing.T) {
	for _, capacity := range []int{1, 2, 3, 7, 64, api.MaxCap - 1, api.MaxCap} {
		pick := scatter(uint64(capacity))
		var all []api.Event
		for i := range capacity {
			all = append(all, ev(int64(i/3), uint64(i%3), i))
		}
		g := opened(t, capacity)
		pushed(t, g, api.OK, shuffled(pick, all)...)
		pushed(t, g, api.ErrFull, at(-1, 0), at(int64(capacity), 0))
		pushed(t, g, api.ErrTwice, all...)
		tells(t, g, api.NoMark, false, all...)
		flushed(t, g, api.OK, all...)
	}
}

// Promise 10.2: the ends of the safe range. An id may be any.
func TestTimestampsAtTheEnds(t *testing.T) {
	for _, id := range wildIds {
		p := open(t, fmt.Sprint("id ", id), 20)
		for _, ts := range wildTimes {
			want := api.OK
			if outside(ts) {
				want = api.ErrRange
			}
			if code := p.push(at(ts, id)); code != want {
				t.Errorf("10.2: Push(%d/%d): %d, want %d", ts, id, code, want)
			}
		}
		p.flush()
	}
}

// Promise 10.2: ids are ordered as numbers without a sign.
func TestIdsInTheirOrder(t *testing.T) {
	g := opened(t, 9)
	for _, id := range slices.Backward(wildIds) {
		pushed(t, g, api.OK, at(3, id))
	}
	var want []api.Event
	for _, id := range wildIds {
		want = append(want, at(3, id))
	}
	tells(t, g, api.NoMark, false, want...)
	advanced(t, g, 2, api.OK)
	advanced(t, g, 3, api.OK, want...)
}

// Promise 10.2: at the mark and one below it an event is late, one above it is not.
func TestTimestampsAtTheMark(t *testing.T) {
	for _, mark := range []int64{api.MinTs + 1, -7, 0, 1, 12, api.MaxTs - 1} {
		g := opened(t, 4)
		advanced(t, g, mark, api.OK)
		pushed(t, g, api.ErrLate, at(mark-1, 0), at(mark, 0), at(mark, 1<<64-1), at(api.MinTs, 0))
		pushed(t, g, api.OK, at(mark+1, 0))
		tells(t, g, mark, false, at(mark+1, 0))
		advanced(t, g, mark, api.OK)
		advanced(t, g, mark+1, api.OK, at(mark+1, 0))
	}
}

// At the mark NoMark no event is late, at MinTs those of MinTs are, at MaxTs all.
func TestMarksAtTheEnds(t *testing.T) {
	g := opened(t, 4)
	pushed(t, g, api.ErrRange, at(api.NoMark, 0))
	pushed(t, g, api.OK, at(api.MinTs, 5), at(api.MaxTs, 5))
	advanced(t, g, api.NoMark, api.ErrMark)
	tells(t, g, api.NoMark, false, at(api.MinTs, 5), at(api.MaxTs, 5))
	advanced(t, g, api.MinTs, api.OK, at(api.MinTs, 5))
	advanced(t, g, api.NoMark, api.ErrMark)
	pushed(t, g, api.ErrLate, at(api.MinTs, 6))
	pushed(t, g, api.OK, at(api.MinTs+1, 6))
	advanced(t, g, api.MinTs, api.OK)
	advanced(t, g, api.MaxTs-1, api.OK, at(api.MinTs+1, 6))
	pushed(t, g, api.OK, at(api.MaxTs, 4))
	advanced(t, g, api.MaxTs, api.OK, at(api.MaxTs, 4), at(api.MaxTs, 5))
	tells(t, g, api.MaxTs, false)
	pushed(t, g, api.ErrLate, at(api.MaxTs, 6), at(0, 0))
	pushed(t, g, api.ErrRange, at(api.MaxTs+1, 6))
	advanced(t, g, api.MaxTs, api.OK)
	advanced(t, g, api.MaxTs-1, api.ErrBack)
	advanced(t, g, api.MaxTs+1, api.ErrMark)
	flushed(t, g, api.OK)
	tells(t, g, api.MaxTs, true)
}

// Promise 10.2: where several reasons apply, the first one is told.
func TestOrderOfRefusalsOfPush(t *testing.T) {
	g := opened(t, 1)
	advanced(t, g, 5, api.OK)
	pushed(t, g, api.OK, at(6, 1))
	pushed(t, g, api.ErrRange, at(api.MinTs-1, 1), at(api.MaxTs+1, 1)) // below the mark, full
	pushed(t, g, api.ErrLate, at(5, 1), at(-1, 1))                     // full
	pushed(t, g, api.ErrTwice, at(6, 1))                               // full
	pushed(t, g, api.ErrFull, at(6, 0), at(6, 2), at(7, 1))
	flushed(t, g, api.OK, at(6, 1))
	pushed(t, g, api.ErrClosed, at(api.MinTs-1, 1), at(api.MaxTs+1, 1), at(5, 1), at(6, 1), at(7, 1), at(api.MaxTs, 1))
}

// Promise 10.3: where several reasons apply, the first one is told.
func TestOrderOfRefusalsOfAdvance(t *testing.T) {
	g := opened(t, 1)
	pushed(t, g, api.OK, at(6, 1))
	advanced(t, g, 5, api.OK)
	advanced(t, g, api.MinTs-1, api.ErrMark) // below the mark
	advanced(t, g, -1<<63, api.ErrMark)
	advanced(t, g, api.MaxTs+1, api.ErrMark)
	advanced(t, g, 1<<63-1, api.ErrMark)
	for _, mark := range []int64{api.MinTs, -1, 0, 4} {
		advanced(t, g, mark, api.ErrBack)
	}
	tells(t, g, 5, false, at(6, 1))
	flushed(t, g, api.OK, at(6, 1))
	for _, mark := range wildTimes {
		advanced(t, g, mark, api.ErrClosed)
	}
}

// Promise 10.2: an event of a name that is held is refused, whatever else is in it, and the one that is held stays as it is.
func TestTheSameNameWithOtherContents(t *testing.T) {
	g := opened(t, 3)
	pushed(t, g, api.OK, ev(5, 1, 3), ev(5, 2, 4))
	pushed(t, g, api.ErrTwice, ev(5, 1, 3), ev(5, 1, 4), ev(5, 2, 3), api.Event{Ts: 5, Id: 1}, api.Event{Ts: 5, Id: 2, Type: -9, Attrs: [8]int64{9, 9, 9, 9, 9, 9, 9, 9}})
	tells(t, g, api.NoMark, false, ev(5, 1, 3), ev(5, 2, 4))
	pushed(t, g, api.OK, ev(4, 1, 3))
	pushed(t, g, api.ErrTwice, ev(4, 1, 5))
	flushed(t, g, api.OK, ev(4, 1, 3), ev(5, 1, 3), ev(5, 2, 4))
}

// A gate knows nothing of schemas: type and attributes are carried along as they are.
func TestContentsAreCarriedAlong(t *testing.T) {
	odd := []api.Event{
		{Ts: 1, Id: 0, Type: -1 << 63, Attrs: [8]int64{1<<63 - 1, -1 << 63, 0, 1, 2, 3, 4, 5}},
		{Ts: 1, Id: 1, Type: 1<<63 - 1},
		{Ts: 2, Id: 0, Type: api.MaxTypes, Attrs: [8]int64{7: 1}},
	}
	g := opened(t, 3)
	pushed(t, g, api.OK, odd[2], odd[0], odd[1])
	tells(t, g, api.NoMark, false, odd...)
	advanced(t, g, 1, api.OK, odd[:2]...)
	flushed(t, g, api.OK, odd[2])
}

// Promise 10.2: an event of a name that was let through is late.
func TestNamesThatWereLetThrough(t *testing.T) {
	g := opened(t, 3)
	pushed(t, g, api.OK, at(1, 1), at(2, 1), at(3, 1))
	advanced(t, g, 2, api.OK, at(1, 1), at(2, 1))
	pushed(t, g, api.ErrLate, at(1, 1), at(2, 1), ev(1, 1, 9))
	pushed(t, g, api.ErrTwice, at(3, 1))
	advanced(t, g, 100, api.OK, at(3, 1))
	pushed(t, g, api.ErrLate, at(1, 1), at(2, 1), at(3, 1))
	tells(t, g, 100, false)
}

// With ErrFull the event may be pushed again when there is room: a place falls free for each event that is let through, and for none that is refused.
func TestAPlaceFallsFree(t *testing.T) {
	g := opened(t, 2)
	pushed(t, g, api.OK, at(4, 1), at(8, 1))
	pushed(t, g, api.ErrFull, at(6, 1), at(9, 1))
	advanced(t, g, 3, api.OK)
	pushed(t, g, api.ErrFull, at(6, 1))
	advanced(t, g, 4, api.OK, at(4, 1))
	pushed(t, g, api.OK, at(6, 1))
	pushed(t, g, api.ErrFull, at(9, 1))
	advanced(t, g, 8, api.OK, at(6, 1), at(8, 1))
	pushed(t, g, api.OK, at(9, 1), at(10, 1))
	pushed(t, g, api.ErrFull, at(11, 1))
	tells(t, g, 8, false, at(9, 1), at(10, 1))
}

// Promise 10.3: with the mark that the gate has already nothing is let through, and that is OK.
func TestTheSameMarkAgain(t *testing.T) {
	for _, mark := range []int64{api.MinTs, -5, 0, 5, api.MaxTs} {
		p := open(t, fmt.Sprint("mark ", mark), 4)
		p.push(at(mark, 1))
		p.push(at(min(mark+1, api.MaxTs), 2))
		for i := range 4 {
			if l := p.advance(mark); i > 0 && len(l) != 0 {
				t.Errorf("10.3: Advance(%d) again: %s", mark, shown(l))
			}
			p.push(at(mark+1, 3))
		}
		p.flush()
	}
}

// Promise 10.4: of an empty gate, of a full one, of one at MaxTs; and a second Flush.
func TestFlush(t *testing.T) {
	empty := opened(t, 2)
	flushed(t, empty, api.OK)
	tells(t, empty, api.MaxTs, true)

	full := opened(t, 2)
	pushed(t, full, api.OK, at(api.MaxTs, 1), at(api.MinTs, 1))
	flushed(t, full, api.OK, at(api.MinTs, 1), at(api.MaxTs, 1))
	tells(t, full, api.MaxTs, true)

	last := opened(t, 2)
	pushed(t, last, api.OK, at(7, 1))
	advanced(t, last, api.MaxTs, api.OK, at(7, 1))
	flushed(t, last, api.OK)
	tells(t, last, api.MaxTs, true)

	for _, g := range []*gate.Gate{empty, full, last} {
		flushed(t, g, api.ErrClosed)
		flushed(t, g, api.ErrClosed)
		tells(t, g, api.MaxTs, true)
	}
}

// Behind a Flush every call that would change something is refused, and nothing changes.
func TestBehindAFlush(t *testing.T) {
	pick := scatter(3)
	for capacity := 1; capacity < 4; capacity++ {
		p := open(t, "behind a Flush", capacity)
		p.push(at(5, 1))
		p.flush()
		for range 300 {
			ts := wildTimes[pick(len(wildTimes))]
			if code := p.push(at(ts, 1)); code != api.ErrClosed {
				t.Errorf("10.2: Push(%d/1): %d", ts, code)
			}
			p.advance(ts)
			p.flush()
			p.draw(pick, 0)
		}
	}
}

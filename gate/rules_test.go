package gate_test

import (
	"fmt"
	"slices"
	"strings"
	"sync"
	"testing"

	"sluice/api"
	"sluice/gate"
)

// The section 'Ways': a gate is a pile, the pile's methods are the gate's.
var _ interface {
	Len() int
	Peek() (api.Event, bool)
	Pop() (api.Event, bool)
	Sorted() []api.Event
} = (*gate.Gate)(nil)

// Promise P1: wild numbers in every place of every call. What Restore answers is held against the chapter's words.
func TestWildNumbers(t *testing.T) {
	pick := scatter(61)
	wild := func() int64 { return wildTimes[pick(len(wildTimes))] }
	made := 0
	for range 20000 {
		capacity, mark, closed := wildCapacities[pick(len(wildCapacities))], wild(), pick(4) == 0
		var held []api.Event
		for range pick(4) {
			held = append(held, ev(wild(), wildIds[pick(len(wildIds))], pick(9)))
		}
		if pick(2) == 0 {
			held = inOrder(held)
		}
		cannot := len(held) > capacity || !rising(held) || closed && len(held) > 0 || slices.ContainsFunc(held, func(e api.Event) bool { return e.Ts <= mark || e.Ts > api.MaxTs })
		want := first(reason{api.ErrCap, capacity < 1 || capacity > 4096}, reason{api.ErrMark, mark != api.NoMark && outside(mark) || closed && mark != api.MaxTs}, reason{api.ErrHeld, cannot})
		g := restored(t, want, capacity, mark, closed, held)
		if g == nil {
			continue
		}
		made++
		p := &pair{t, "wild", g, &plain{capacity, mark, closed, held}}
		for sign := range 5 {
			p.push(ev(wild(), wildIds[pick(len(wildIds))], sign))
			p.advance(wild())
			if pick(3) == 0 {
				p.flush()
			}
		}
	}
	if made < 1000 {
		t.Errorf("P1: %d gates: too few", made)
	}
}

// Promises P2 and 10.9: the list that is handed to Restore is neither changed nor kept, its spare room neither.
func TestWhatIsHandedInStays(t *testing.T) {
	pick := scatter(71)
	for round := range 300 {
		p := open(t, fmt.Sprint("script ", round), 30)
		for sign := range 25 {
			p.push(drawEvent(pick, 0, sign))
		}
		p.advance(int64(pick(4)))
		held := slices.Grow(p.gate.Held(), 5)
		for i := len(held); i < cap(held); i++ {
			held[:cap(held)][i] = ev(99, 99, i)
		}
		was := slices.Clone(held[:cap(held)])
		g, code := gate.Restore(30, p.gate.Mark(), false, held)
		if code != api.OK {
			t.Fatalf("10.8: %d", code)
		}
		q := &pair{t, "restored", g, p.want}
		q.asked("Restore")
		if !slices.Equal(held[:cap(held)], was) {
			t.Fatal("P2: Restore has changed its list")
		}
		scrawl(held)
		q.asked("Restore, its list written over")
		for sign := range 10 {
			q.draw(pick, sign)
		}
		q.flush()
	}
}

// A list that Restore refuses is not changed either.
func TestWhatIsRefusedStays(t *testing.T) {
	bad := list(ev(6, 2, 1), ev(6, 1, 2), ev(4, 1, 3))
	was := slices.Clone(bad)
	restored(t, api.ErrHeld, 3, 5, false, bad)
	if !slices.Equal(bad, was) {
		t.Errorf("P2: %s", shown(bad))
	}
}

// Promises P2 and 10.9: the lists that Advance, Flush and Held answer are new memory: written over and grown they change nothing, neither in the gate nor in another answer, nor are they changed by later steps.
func TestWhatIsHandedOutIsNew(t *testing.T) {
	pick := scatter(81)
	for round := range 200 {
		p := open(t, fmt.Sprint("script ", round), 40)
		var lists, were [][]api.Event
		keep := func(l []api.Event) {
			lists, were = append(lists, l), append(were, slices.Clone(l))
		}
		for sign := range 60 {
			p.push(drawEvent(pick, p.want.mark, sign))
			scrawl(p.gate.Held())
			keep(p.gate.Held())
			if pick(4) == 0 {
				l := p.advance(max(p.want.mark, -4) + int64(pick(4)))
				if pick(2) == 0 {
					scrawl(l)
				} else {
					keep(l)
				}
			}
			p.asked("lists written over")
		}
		for i, l := range lists {
			if !slices.Equal(l, were[i]) {
				t.Fatalf("P2: an answer was changed later: %s, was %s", shown(l), shown(were[i]))
			}
			scrawl(l)
		}
		p.asked("all lists written over")
		last := p.flush()
		scrawl(last)
		p.asked("the last list written over")
		p.flush()
	}
}

// Promise P3: gates in turns know nothing of each other.
func TestTwoGatesInTurns(t *testing.T) {
	pick := scatter(91)
	for round := range 150 {
		where := fmt.Sprint("script ", round)
		gates := []*pair{open(t, where+", one", 10), open(t, where+", another one", 10), open(t, where+", a small one", 2)}
		for sign := range 80 {
			if pick(3) == 0 { // the same event at all of them
				e := drawEvent(pick, 0, sign)
				for _, p := range gates {
					p.push(e)
				}
				continue
			}
			gates[pick(len(gates))].draw(pick, sign)
			for _, p := range gates {
				p.asked("another gate's step")
			}
		}
	}
}

// answers: what a gate answers to scattered steps, as a text.
func answers(seed uint64) string {
	pick := scatter(seed)
	g, _ := gate.New(1 + pick(30))
	var out strings.Builder
	for sign := range 400 {
		switch pick(30) {
		case 0:
			h, code := gate.Restore(30, g.Mark(), g.Closed(), g.Held())
			fmt.Fprintln(&out, code)
			g = h
		case 1, 2, 3:
			l, code := g.Advance(max(g.Mark(), -4) + int64(pick(5)-1))
			fmt.Fprintln(&out, l, code)
		default:
			fmt.Fprintln(&out, g.Push(drawEvent(pick, g.Mark(), sign)))
		}
		fmt.Fprintln(&out, g.Mark(), g.Closed(), g.Len(), g.Held())
	}
	l, code := g.Flush()
	fmt.Fprintln(&out, l, code)
	return out.String()
}

// Promise P3: the same steps, the same answers, whatever other gates are told at that time.
func TestSameStepsSameAnswers(t *testing.T) {
	want := make([]string, 8)
	for seed := range want {
		want[seed] = answers(uint64(seed))
	}
	got := make([]string, 4*len(want))
	var group sync.WaitGroup
	for i := range got {
		group.Go(func() { got[i] = answers(uint64(i % len(want))) })
	}
	group.Wait()
	for i, g := range got {
		if g != want[i%len(want)] {
			t.Errorf("P3: the steps %d are answered otherwise", i%len(want))
		}
	}
}

// refuse tells a gate steps that it refuses, as many kinds of them as there are at that time; with each it answers no events.
func refuse(t *testing.T, g *gate.Gate, full bool) {
	t.Helper()
	held := g.Held()
	if g.Closed() {
		pushed(t, g, api.ErrClosed, at(0, 0), at(api.MaxTs+1, 0))
		advanced(t, g, api.MaxTs, api.ErrClosed)
		flushed(t, g, api.ErrClosed)
		return
	}
	pushed(t, g, api.ErrRange, at(api.MaxTs+1, 0), at(api.MinTs-1, 0))
	advanced(t, g, api.MaxTs+1, api.ErrMark)
	advanced(t, g, api.NoMark, api.ErrMark)
	if mark := g.Mark(); mark >= api.MinTs {
		pushed(t, g, api.ErrLate, at(mark, 0), at(api.MinTs, 0))
	}
	if mark := g.Mark(); mark > api.MinTs {
		advanced(t, g, mark-1, api.ErrBack)
		advanced(t, g, api.MinTs, api.ErrBack)
	}
	for _, e := range held {
		pushed(t, g, api.ErrTwice, ev(e.Ts, e.Id, 77))
	}
	if full {
		pushed(t, g, api.ErrFull, at(api.MaxTs, 12345))
	}
}

// Promises P4 and 10.9: a call that refuses changes nothing: of two gates that are told the same one is told refused steps in between, and every later call of both answers the same.
func TestRefusalsChangeNothing(t *testing.T) {
	pick := scatter(101)
	full := 0
	for round := range 300 {
		p := open(t, fmt.Sprint("script ", round), 1+pick(4))
		q := p.again()
		for sign := range 40 {
			if isFull := q.gate.Len() == q.want.capacity; isFull {
				full++
				refuse(t, q.gate, p.gate.Mark() < api.MaxTs)
			} else {
				refuse(t, q.gate, false)
			}
			q.asked("refusals")
			seed := uint64(pick(1 << 20))
			p.draw(scatter(seed), sign)
			q.draw(scatter(seed), sign)
		}
	}
	if full < 800 {
		t.Errorf("P4: %d times a gate was full: too seldom", full)
	}
}

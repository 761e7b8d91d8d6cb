package pile_test

import (
	"errors"
	"fmt"
	"runtime"
	"slices"
	"strings"
	"sync"
	"testing"
	"weak"

	"sluice/api"
	"sluice/pile"
)

// Types whose Before is no order. Of these just P1 is promised.

type always int

func (always) Before(always) bool { return true }

type never int

func (never) Before(never) bool { return false }

// ring: 0 is before 1, 1 before 2, and 2 before 0.
type ring int

func (r ring) Before(s ring) bool { return (s-r+3)%3 == 1 }

// unsteady: it says otherwise each time.
type unsteady struct{ pick func(int) int }

func (u unsteady) Before(unsteady) bool { return u.pick(2) == 0 }

// near: even ones of even ones need not be even.
type near int

func (n near) Before(m near) bool { return n+3 < m }

type float float64

func (f float) Before(g float) bool { return f < g }

// pointed: its Before panics where one of the two is nil.
type pointed struct{ rank int }

func (p *pointed) Before(q *pointed) bool { return p.rank < q.rank }

// bursting: its Before panics, with an error and with a text.
type bursting int

func (b bursting) Before(c bursting) bool {
	if (b+c)%2 == 0 {
		panic(errors.New("no order"))
	}
	panic("no order")
}

// open: an interface as the type of things.
type open interface{ Before(open) bool }

type opened int

func (o opened) Before(p open) bool { return o < p.(opened) }

// list: a list as a thing.
type list []int

func (l list) Before(m list) bool { return slices.Compare(l, m) < 0 }

// ends: does every call end, in scattered turns, without a panic? As many things are popped as were laid down.
func ends[T api.Ranked[T]](t *testing.T, where string, draw func(pick func(int) int) T) {
	t.Helper()
	pick := scatter(6)
	for range 100 {
		p := pile.New[T]()
		var all []T
		held := 0
		for range pick(70) {
			if pick(3) > 0 {
				x := draw(pick)
				p.Push(x)
				all = append(all, x)
				held++
			} else if _, ok := p.Pop(); ok {
				held--
			}
			p.Peek()
			if len(p.Sorted()) != held || p.Len() != held {
				t.Fatalf("P1: %s: %d things, want %d", where, p.Len(), held)
			}
		}
		if len(pile.Sort(all)) != len(all) || len(drained(p)) != held {
			t.Fatalf("P1: %s: things are lost", where)
		}
	}
}

// Promise P1, of types whose Before is no order too.
func TestEveryCallEnds(t *testing.T) {
	ends(t, "always", func(pick func(int) int) always { return always(pick(9)) })
	ends(t, "never", func(pick func(int) int) never { return never(pick(9)) })
	ends(t, "ring", func(pick func(int) int) ring { return ring(pick(3)) })
	ends(t, "unsteady", func(pick func(int) int) unsteady { return unsteady{pick} })
	ends(t, "near", func(pick func(int) int) near { return near(pick(9)) })
	ends(t, "floats", func(pick func(int) int) float {
		n := float(pick(3))
		return n / n
	})
	ends(t, "lists", func(pick func(int) int) list { return make(list, pick(3)) })
	ends(t, "names", func(pick func(int) int) api.Name { return drawName(pick, 0) })
	ends(t, "events", func(pick func(int) int) api.Event { return drawEvent(pick, pick(5)) })
	ends(t, "matches", func(pick func(int) int) api.Match { return drawMatch(pick, pick(5)) })
	ends(t, "waitings", func(pick func(int) int) api.Waiting { return drawWaiting(pick, pick(5)) })
}

// Promise P1: a Before that panics is no order either.
func TestNoPanicComesOut(t *testing.T) {
	ends(t, "nil pointers", func(pick func(int) int) *pointed {
		if pick(2) == 0 {
			return nil
		}
		return &pointed{pick(9)}
	})
	ends(t, "bursting", func(pick func(int) int) bursting { return bursting(pick(9)) })
	ends(t, "interfaces", func(pick func(int) int) open {
		if pick(2) == 0 {
			return nil
		}
		return opened(pick(9))
	})
}

// Pointers and values in an interface that are all there have an order as any others.
func TestOtherTypesInTheirOrder(t *testing.T) {
	inOrder(t, "interfaces", open(opened(-2)), open(opened(0)), open(opened(7)))
	inOrder(t, "lists", list{}, list{-1, 9}, list{2}, list{2, 0}, list{2, 1})
	inOrder(t, "floats", float(-1.5), float(0.25), float(0.5))
	a, b, c := &pointed{1}, &pointed{1}, &pointed{0}
	if got := pile.Sort([]*pointed{a, b, c}); !slices.Equal(got, []*pointed{c, a, b}) {
		t.Errorf("pointers: %v", got)
	}
	if got := pile.Sort([]*pointed{b, c, a}); !slices.Equal(got, []*pointed{c, b, a}) {
		t.Errorf("pointers: %v", got)
	}
}

// whole: a list with its spare room.
func whole[T any](l []T) []T { return l[:cap(l)] }

// Promise P2: Sort's list is neither changed nor kept, its spare room neither.
func TestWhatIsHandedInStays(t *testing.T) {
	pick := scatter(7)
	for range 500 {
		l := make([]card, 0, 60)
		for mark := range pick(50) {
			l = append(l, card{pick(5), mark})
		}
		for i := len(l); i < cap(l); i++ {
			whole(l)[i] = card{-1, i}
		}
		was := slices.Clone(whole(l))
		got := pile.Sort(l)
		if !slices.Equal(whole(l), was) {
			t.Fatalf("P2: Sort has changed its list: %v, was %v", whole(l), was)
		}
		if !slices.Equal(got, stable(l)) {
			t.Fatalf("P3: what stands behind a list counts: %v", got)
		}
		said := slices.Clone(got)
		clear(whole(l))
		if !slices.Equal(got, said) {
			t.Fatalf("P2: who writes into the list changes what Sort has answered: %v", got)
		}
	}
}

// Promise P2: a list of which things were pushed one by one, and things that were pushed, may be written over.
func TestThingsAreHeldAsValues(t *testing.T) {
	l := []api.Event{ev(3, 3, 0), ev(1, 1, 1), ev(2, 2, 2)}
	p := pile.New[api.Event]()
	for i := range l {
		p.Push(l[i])
		l[i] = ev(0, 0, 9)
	}
	if got := drained(p); !same(got, []api.Event{ev(1, 1, 1), ev(2, 2, 2), ev(3, 3, 0)}) {
		t.Errorf("P2: %+v", got)
	}
}

// scrawl writes over a list, grows it within its spare room and beyond it, and writes over that.
func scrawl(l []card) {
	for i := range whole(l) {
		whole(l)[i] = card{-99, -99}
	}
	for range 3 {
		l = append(l, card{-77, -77})
		clear(l)
	}
}

// Promise P2: what Sorted and Sort answer is new memory: written over and grown, it changes nothing, neither in the pile nor in another answer, nor is it changed by later steps.
func TestWhatIsHandedOutIsNew(t *testing.T) {
	pick := scatter(8)
	for range 300 {
		p, want := pile.New[card](), plain[card]{}
		var lists, were [][]card
		for mark := range 40 {
			if pick(4) > 0 {
				c := card{pick(5), mark}
				p.Push(c)
				want.push(c)
			} else {
				pops(t, "P2", p, &want)
			}
			scrawl(p.Sorted())
			l := p.Sorted()
			lists, were = append(lists, l), append(were, slices.Clone(l))
			scrawl(pile.Sort(want.held))
			l = pile.Sort(want.held)
			lists, were = append(lists, l), append(were, slices.Clone(l))
			holds(t, "P2", p, &want)
		}
		for i, l := range lists {
			if !slices.Equal(l, were[i]) {
				t.Fatalf("P2: an answer was changed later: %v, was %v", l, were[i])
			}
			scrawl(l)
		}
		holds(t, "P2", p, &want)
		drained(p)
	}
}

// Lists within things are handed on as they were handed in: the same memory, the same spare room.
func TestListsWithinThingsAreHandedOn(t *testing.T) {
	names := make([]api.Name, 2, 5)
	lens, vals := make([]int, 1, 3), make([]api.Val, 1, 7)
	bound := make(api.Binding, 1, 2)
	bound[0] = make([]api.Event, 2, 9)
	m := api.Match{Decide: 4, Names: names, Lens: lens, Vals: vals}
	w := api.Waiting{Match: m, Bound: bound}
	as := func(where string, x api.Waiting) {
		t.Helper()
		if &x.Names[0] != &names[0] || &x.Lens[0] != &lens[0] || &x.Vals[0] != &vals[0] || &x.Bound[0] != &bound[0] || &x.Bound[0][0] != &bound[0][0] {
			t.Errorf("%s: a list was copied", where)
		}
		if cap(x.Names) != 5 || cap(x.Lens) != 3 || cap(x.Vals) != 7 || cap(x.Bound) != 2 || cap(x.Bound[0]) != 9 || len(x.Names) != 2 || x.Decide != 4 {
			t.Errorf("%s: a list was cut", where)
		}
	}
	p := of(w, wt(9, nil, nil, 0), wt(3, nil, nil, 0))
	as("Sorted", p.Sorted()[1])
	p.Pop()
	x, _ := p.Peek()
	as("Peek", x)
	x, _ = p.Pop()
	as("Pop", x)
	as("Sort", pile.Sort([]api.Waiting{wt(5, nil, nil, 0), w})[0])
	vals[0] = api.Val{Known: true, N: 8}
	if got := x.Vals[0].N; got != 8 {
		t.Errorf("the list does not stay whose it is: %d", got)
	}
}

// bulky: too big to lie in one piece of memory with another one.
type bulky struct {
	rank int
	bulk [16]int
}

func (b *bulky) Before(c *bulky) bool { return b.rank < c.rank }

// What was popped is not kept: with nobody else who has it, its memory comes free.
func TestWhatIsPoppedIsNotKept(t *testing.T) {
	p := pile.New[*bulky]()
	var marks []weak.Pointer[bulky]
	for i := range 100 {
		x := &bulky{rank: i * 37 % 100}
		marks = append(marks, weak.Make(x))
		p.Push(x)
	}
	for range 60 {
		p.Pop()
	}
	runtime.GC()
	kept := 0
	for _, m := range marks {
		if m.Value() != nil {
			kept++
		}
	}
	if kept != 40 || p.Len() != 40 {
		t.Errorf("%d things are kept of %d that are held", kept, p.Len())
	}
	runtime.KeepAlive(p)
}

// Promise P3: two piles in turns know nothing of each other, of one type or of two.
func TestTwoPilesInTurns(t *testing.T) {
	pick := scatter(9)
	for range 200 {
		p, q, r := pile.New[card](), pile.New[card](), pile.New[api.Event]()
		var wantP, wantQ plain[card]
		var wantR plain[api.Event]
		for mark := range 80 {
			c, e := card{pick(4), mark}, ev(int64(pick(4)), 0, mark)
			switch pick(6) {
			case 0, 1:
				p.Push(c)
				wantP.push(c)
				r.Push(e)
				wantR.push(e)
			case 2:
				q.Push(c)
				wantQ.push(c)
			case 3:
				pops(t, "P3: one", p, &wantP)
				q.Push(c)
				wantQ.push(c)
			case 4:
				pops(t, "P3: another one", q, &wantQ)
			default:
				pops(t, "P3: one of events", r, &wantR)
				pile.Sort(wantP.held)
			}
			holds(t, "P3: one", p, &wantP)
			holds(t, "P3: another one", q, &wantQ)
			holds(t, "P3: one of events", r, &wantR)
		}
	}
}

// answers: what a pile answers to scattered steps, as a text.
func answers(seed uint64) string {
	pick := scatter(seed)
	p := pile.New[api.Match]()
	var out strings.Builder
	var all []api.Match
	for mark := range 300 {
		if pick(3) > 0 {
			m := drawMatch(pick, mark)
			p.Push(m)
			all = append(all, m)
		} else {
			x, ok := p.Pop()
			fmt.Fprintln(&out, x, ok)
		}
		x, ok := p.Peek()
		fmt.Fprintln(&out, x, ok, p.Len())
	}
	fmt.Fprintln(&out, p.Sorted(), pile.Sort(all))
	return out.String()
}

// Promise P3: the same steps, the same answers, whatever other piles are told at that time.
func TestSameStepsSameAnswers(t *testing.T) {
	want := make([]string, 8)
	for seed := range want {
		want[seed] = answers(uint64(seed))
	}
	got := make([]string, 8*len(want))
	var group sync.WaitGroup
	for i := range got {
		group.Go(func() { got[i] = answers(uint64(i % len(want))) })
	}
	group.Wait()
	for i, g := range got {
		if g != want[i%len(want)] {
			t.Errorf("P3: the steps %d are answered otherwise", i%len(want))
		}
	}
}

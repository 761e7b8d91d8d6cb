package pile_test

import (
	"math"
	"slices"
	"testing"

	"sluice/api"
	"sluice/pile"
)

// wants: what a pile must answer of Pop, or of Peek.
func wants[T api.Ranked[T]](t *testing.T, call string, x T, ok bool, want T) {
	t.Helper()
	if !ok || told(x) != told(want) {
		t.Errorf("%s: %+v, %v, want %+v", call, x, ok, want)
	}
}

// The chapter's examples.
func TestExamples(t *testing.T) {
	nothing(t, "New", pile.New[api.Name]())

	p := of(name(5, 1), name(3, 9), name(3, 2))
	x, ok := p.Peek()
	wants(t, "Peek", x, ok, name(3, 2))
	for _, want := range []api.Name{name(3, 2), name(3, 9)} {
		x, ok = p.Pop()
		wants(t, "Pop", x, ok, want)
	}
	if p.Len() != 1 {
		t.Errorf("Len: %d, want 1", p.Len())
	}
	x, ok = p.Pop()
	wants(t, "Pop", x, ok, name(5, 1))
	nothing(t, "popped", p)

	events := of(ev(4, 4, 1), ev(4, 4, 0), ev(2, 2, 0))
	want := []api.Event{ev(2, 2, 0), ev(4, 4, 1), ev(4, 4, 0)}
	if got := events.Sorted(); !same(got, want) {
		t.Errorf("Sorted: %+v", got)
	}
	if got := drained(events); !same(got, want) {
		t.Errorf("Pop: %+v", got)
	}

	again := of(ev(4, 4, 1), ev(4, 4, 0))
	e, ok := again.Pop()
	wants(t, "Pop", e, ok, ev(4, 4, 1))
	again.Push(e)
	if got := drained(again); !same(got, []api.Event{ev(4, 4, 0), ev(4, 4, 1)}) {
		t.Errorf("Pop, Pop: %+v", got)
	}

	if got := pile.Sort([]api.Name{name(3, 1), name(1, 1), name(2, 1), name(1, 0)}); !same(got, []api.Name{name(1, 0), name(1, 1), name(2, 1), name(3, 1)}) {
		t.Errorf("Sort: %+v", got)
	}
	if got := pile.Sort[api.Name](nil); len(got) != 0 {
		t.Errorf("Sort of nil: %+v", got)
	}
}

// An empty pile, one that was emptied, and one that is filled again.
func emptied[T api.Ranked[T]](t *testing.T, where string, k kind[T]) {
	pick := scatter(1)
	p := pile.New[T]()
	nothing(t, where+", new", p)
	for round := range 20 {
		want := plain[T]{}
		for mark := range round {
			x := k(pick, mark)
			p.Push(x)
			want.push(x)
			holds(t, where, p, &want)
		}
		for range round {
			pops(t, where, p, &want)
			holds(t, where, p, &want)
		}
		nothing(t, where+", emptied", p)
	}
}

func TestEmptyPiles(t *testing.T) {
	emptied(t, "names", drawName)
	emptied(t, "events", drawEvent)
	emptied(t, "matches", drawMatch)
	emptied(t, "waitings", drawWaiting)
	emptied(t, "cards", drawCard)
}

// The zero value as a thing is a thing like any other.
func TestZeroThings(t *testing.T) {
	p := of(name(1, 0), name(0, 0), name(-1, 5))
	if got := drained(p); !same(got, []api.Name{name(-1, 5), name(0, 0), name(1, 0)}) {
		t.Errorf("Pop: %+v", got)
	}
	matches := of(api.Match{}, api.Match{})
	for left := 1; left >= 0; left-- {
		if x, ok := matches.Pop(); !ok || told(x) != told(api.Match{}) || matches.Len() != left {
			t.Errorf("Pop: %+v, %v", x, ok)
		}
	}
	nothing(t, "popped", matches)
}

// The same thing laid down several times is held so many times.
func TestTheSameThingSeveralTimes(t *testing.T) {
	for times := 1; times < 40; times++ {
		p := pile.New[api.Name]()
		for i := range times {
			p.Push(name(3, 3))
			p.Push(name(int64(2+2*(i%2)), 3))
		}
		low, high := (times+1)/2, times/2
		want := slices.Concat(slices.Repeat([]api.Name{name(2, 3)}, low), slices.Repeat([]api.Name{name(3, 3)}, times), slices.Repeat([]api.Name{name(4, 3)}, high))
		if got := p.Sorted(); p.Len() != 2*times || !same(got, want) {
			t.Fatalf("%d times: %+v", times, got)
		}
		for i, w := range want {
			if x, ok := p.Pop(); !ok || x != w || p.Len() != len(want)-1-i {
				t.Fatalf("%d times: Pop: %+v, %v; %d left", times, x, ok, p.Len())
			}
		}
	}
}

// rows hands over each row of up to so many ranks below three, as cards that are marked by their places.
func rows(most int, tell func([]card)) {
	last := [][]card{nil}
	for length := 1; length <= most; length++ {
		var next [][]card
		for _, row := range last {
			for rank := range 3 {
				next = append(next, append(slices.Clone(row), card{rank, len(row)}))
			}
		}
		for _, row := range next {
			tell(row)
		}
		last = next
	}
}

// Even things, laid down in either order, with others between: every row of a few.
func TestEvenThings(t *testing.T) {
	count := 0
	rows(8, func(row []card) {
		count++
		want := stable(row)
		p := of(row...)
		if got := p.Sorted(); !slices.Equal(got, want) {
			t.Fatalf("Sorted of %v: %v", row, got)
		}
		if got := drained(p); !slices.Equal(got, want) {
			t.Fatalf("Pop of %v: %v", row, got)
		}
		if got := pile.Sort(row); !slices.Equal(got, want) {
			t.Fatalf("Sort of %v: %v", row, got)
		}
	})
	if count != 9840 {
		t.Errorf("%d rows", count)
	}
}

// A thing that is popped and laid down again, among even ones and others, has the latest turn.
func TestLaidDownAgain(t *testing.T) {
	for even := 1; even <= 20; even++ {
		p := of(ev(9, 9, 100), ev(9, 9, 101))
		for mark := range even {
			p.Push(ev(4, 4, mark))
		}
		for round := range 3 * even {
			x, ok := p.Pop()
			wants(t, "Pop", x, ok, ev(4, 4, round%even))
			p.Push(x)
		}
		want := []api.Event{}
		for mark := range even {
			want = append(want, ev(4, 4, mark))
		}
		if got := drained(p); !same(got, append(want, ev(9, 9, 100), ev(9, 9, 101))) {
			t.Fatalf("%d even ones: %+v", even, got)
		}
	}
	p := of(card{1, 0}, card{1, 1}, card{1, 2})
	x, _ := p.Pop()
	p.Push(card{0, 9})
	p.Push(x)
	p.Push(card{1, 3})
	if got, want := drained(p), []card{{0, 9}, {1, 1}, {1, 2}, {1, 0}, {1, 3}}; !slices.Equal(got, want) {
		t.Errorf("Pop: %v, want %v", got, want)
	}
}

// A pile that was emptied still gives the turns as things come.
func TestTurnsBehindAnEmptyPile(t *testing.T) {
	p := of(card{1, 0}, card{1, 1})
	drained(p)
	for mark := range 9 {
		p.Push(card{1, mark})
	}
	for mark := range 9 {
		x, ok := p.Pop()
		wants(t, "Pop", x, ok, card{1, mark})
	}
}

// Peek, Sorted and Len, twice in a row, between any two steps, change nothing.
func TestAskingChangesNothing(t *testing.T) {
	pick := scatter(2)
	for range 400 {
		p, quiet := pile.New[card](), pile.New[card]()
		for mark := range 60 {
			for range pick(3) {
				first, second := p.Sorted(), p.Sorted()
				x, ok := p.Peek()
				y, still := p.Peek()
				if !slices.Equal(first, second) || x != y || ok != still || len(first) != p.Len() || p.Len() != quiet.Len() {
					t.Fatalf("asked twice: %v, %v; %v, %v; %d", first, second, x, y, p.Len())
				}
			}
			if pick(3) > 0 {
				c := card{pick(4), mark}
				p.Push(c)
				quiet.Push(c)
				continue
			}
			x, ok := p.Pop()
			if y, wanted := quiet.Pop(); x != y || ok != wanted {
				t.Fatalf("Pop of the pile that is asked: %v, %v, of the other one %v, %v", x, ok, y, wanted)
			}
		}
		if got, want := drained(p), drained(quiet); !slices.Equal(got, want) {
			t.Fatalf("Pop of the pile that is asked: %v, of the other one %v", got, want)
		}
	}
}

// Sort of nil, of an empty list, of one thing; of lists that are sorted already, turned round, all even.
func sorts[T api.Ranked[T]](t *testing.T, where string, k kind[T], even func(mark int) T) {
	t.Helper()
	if got := pile.Sort[T](nil); len(got) != 0 {
		t.Errorf("%s: Sort of nil: %+v", where, got)
	}
	if got := pile.Sort([]T{}); len(got) != 0 {
		t.Errorf("%s: Sort of an empty list: %+v", where, got)
	}
	pick := scatter(3)
	for length := range 40 {
		var drawn, all []T
		for mark := range length {
			drawn, all = append(drawn, k(pick, mark)), append(all, even(mark))
		}
		for _, l := range [][]T{drawn, stable(drawn), turned(stable(drawn)), all, turned(all)} {
			was := told(l)
			if got := pile.Sort(l); !same(got, stable(l)) {
				t.Fatalf("%s: Sort of %+v: %+v", where, l, got)
			}
			if told(l) != was {
				t.Fatalf("%s: Sort has changed its list %s: %+v", where, was, l)
			}
		}
		if got := pile.Sort(all); !same(got, all) {
			t.Fatalf("%s: Sort of even ones: %+v", where, got)
		}
	}
}

func TestSort(t *testing.T) {
	names, lens := []api.Name{name(1, 1), name(2, 1)}, []int{2}
	sorts(t, "names", drawName, func(int) api.Name { return name(1, 1) })
	sorts(t, "events", drawEvent, func(mark int) api.Event { return ev(1, 1, mark) })
	sorts(t, "matches", drawMatch, func(mark int) api.Match { return mt(1, names, lens, mark) })
	sorts(t, "waitings", drawWaiting, func(mark int) api.Waiting { return wt(1, names, lens, mark) })
	sorts(t, "cards", drawCard, func(mark int) card { return card{1, mark} })
}

// inOrder: a list that is rising: every order of its things is sorted to it, by Sort and by a pile.
func inOrder[T api.Ranked[T]](t *testing.T, where string, want ...T) {
	t.Helper()
	orders(want, func(l []T) {
		p := of(l...)
		if got := pile.Sort(l); !same(got, want) {
			t.Fatalf("%s: Sort of %+v: %+v", where, l, got)
		}
		if got := drained(p); !same(got, want) {
			t.Fatalf("%s: Pop of %+v: %+v", where, l, got)
		}
	})
}

// Names, events, matches and waitings, each by its own order.
func TestOrders(t *testing.T) {
	inOrder(t, "names", name(math.MinInt64, math.MaxUint64), name(-1, 0), name(0, 0), name(0, 1<<63-1), name(0, 1<<63), name(0, math.MaxUint64), name(math.MaxInt64, 0))
	inOrder(t, "events", ev(api.MinTs, 5, 9), ev(-1, 3, 8), ev(0, 0, 7), ev(0, 1, 6), ev(0, 1<<63, 5), ev(api.MaxTs, 0, 0))
	one, two, far := name(1, 1), name(1, 2), name(9, 9)
	inOrder(t, "matches",
		mt(-5, []api.Name{far, far}, []int{9}, 6),
		mt(3, nil, []int{9}, 5),
		mt(3, []api.Name{one}, []int{9}, 4),
		mt(3, []api.Name{one, two}, []int{1, 1}, 3),
		mt(3, []api.Name{one, two}, []int{2}, 2),
		mt(3, []api.Name{one, two}, []int{2, 0}, 1),
		mt(3, []api.Name{two}, nil, 0))
	inOrder(t, "waitings",
		wt(-5, []api.Name{far, far}, []int{9}, 6),
		wt(3, nil, []int{9}, 5),
		wt(3, []api.Name{one}, []int{9}, 4),
		wt(3, []api.Name{one, two}, []int{1, 1}, 3),
		wt(3, []api.Name{one, two}, []int{2}, 2),
		wt(3, []api.Name{one, two}, []int{2, 0}, 1),
		wt(3, []api.Name{two}, nil, 0))
	inOrder(t, "cards", card{-3, 1}, card{0, 0}, card{1, 5}, card{2, 4}, card{math.MaxInt, 3})
}

// What a thing bears beside its order does not count in it.
func TestWhatTheOrderDoesNotSee(t *testing.T) {
	names, lens := []api.Name{name(1, 1)}, []int{1}
	for _, marks := range [][]int{{0, 1, 2}, {2, 1, 0}, {1, 0, 2}, {5, 5, 5}} {
		var events []api.Event
		var matches []api.Match
		var waitings []api.Waiting
		for _, m := range marks {
			events, matches, waitings = append(events, ev(1, 1, m)), append(matches, mt(1, names, lens, m)), append(waitings, wt(1, names, lens, m))
		}
		if got := pile.Sort(events); !same(got, events) {
			t.Errorf("events %v: %+v", marks, got)
		}
		if got := pile.Sort(matches); !same(got, matches) {
			t.Errorf("matches %v: %+v", marks, got)
		}
		if got := pile.Sort(waitings); !same(got, waitings) {
			t.Errorf("waitings %v: %+v", marks, got)
		}
	}
}

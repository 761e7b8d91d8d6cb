package pile_test

import (
	"cmp"
	"fmt"
	"maps"
	"math/bits"
	"slices"
	"testing"

	"sluice/api"
	"sluice/pile"
)

// counted: how often each thing stands in a list.
func counted[T any](l []T) map[string]int {
	out := map[string]int{}
	for _, x := range l {
		out[told(x)]++
	}
	return out
}

// Promise 9.1: scattered turns of Push and Pop; what was laid down and not popped is counted thing by thing. One thing in four was laid down before.
func isThere[T api.Ranked[T]](t *testing.T, where string, k kind[T], seed uint64) {
	pick := scatter(seed)
	twice := 0
	for range 150 {
		p, there := pile.New[T](), map[string]int{}
		var all []T
		held, pushes := 0, 2+pick(3)
		for mark := range 80 {
			if pick(5) < pushes {
				x := k(pick, mark)
				if len(all) > 0 && pick(4) == 0 {
					x = all[pick(len(all))]
				}
				p.Push(x)
				all = append(all, x)
				there[told(x)]++
				held++
			} else if x, ok := p.Pop(); ok != (held > 0) || ok && there[told(x)] == 0 {
				t.Fatalf("9.1: %s: Pop: %+v, %v; %d are there: %v", where, x, ok, held, there)
			} else if ok {
				held--
				if there[told(x)]--; there[told(x)] == 0 {
					delete(there, told(x))
				}
			}
			if got := counted(p.Sorted()); p.Len() != held || !maps.Equal(got, there) {
				t.Fatalf("9.1: %s: %d things: %v, want %d: %v", where, p.Len(), got, held, there)
			}
			if held > len(there) {
				twice++
			}
		}
	}
	if twice < 1000 {
		t.Errorf("9.1: %s: %d times a thing was held several times: too seldom", where, twice)
	}
}

func TestWhatIsThere(t *testing.T) {
	isThere(t, "names", drawName, 10)
	isThere(t, "events", drawEvent, 11)
	isThere(t, "matches", drawMatch, 12)
	isThere(t, "waitings", drawWaiting, 13)
	isThere(t, "cards", drawCard, 14)
}

// Promises 9.1 and 9.2, against the second pile: every row of a few steps. A step below 3 lays a card of that rank down, 3 pops.
func TestEveryRowOfSteps(t *testing.T) {
	const most = 7
	row := make([]int, most)
	var from func(at int)
	from = func(at int) {
		if at < most {
			for step := range 4 {
				row[at] = step
				from(at + 1)
			}
			return
		}
		where := fmt.Sprint("steps ", row)
		p, want := pile.New[card](), plain[card]{}
		for mark, step := range row {
			if step < 3 {
				p.Push(card{step, mark})
				want.push(card{step, mark})
			} else {
				x, ok := p.Pop()
				if y, wanted := want.pop(); x != y || ok != wanted {
					t.Fatalf("%s: Pop: %v, %v, want %v, %v", where, x, ok, y, wanted)
				}
			}
		}
		sorted := want.sorted()
		if got := p.Sorted(); p.Len() != len(sorted) || !slices.Equal(got, sorted) {
			t.Fatalf("%s: Sorted: %v, want %v", where, got, sorted)
		}
		if got := drained(p); !slices.Equal(got, sorted) {
			t.Fatalf("%s: drained: %v, want %v", where, got, sorted)
		}
	}
	from(0)
}

// Promises 9.1 and 9.2: scattered turns, against the second pile; things that were popped are laid down again among others.
func turns[T api.Ranked[T]](t *testing.T, where string, k kind[T], seed uint64) {
	pick := scatter(seed)
	for range 120 {
		p, want := pile.New[T](), plain[T]{}
		var popped []T
		pushes := 1 + pick(4)
		for mark := range pick(90) {
			switch {
			case len(popped) > 0 && pick(4) == 0:
				x := popped[pick(len(popped))]
				p.Push(x)
				want.push(x)
			case pick(5) < pushes:
				x := k(pick, mark)
				p.Push(x)
				want.push(x)
			default:
				if x, ok := want.peek(); ok {
					popped = append(popped, x)
				}
				pops(t, where, p, &want)
			}
			if pick(3) == 0 {
				holds(t, where, p, &want)
			}
		}
		sorted := p.Sorted()
		holds(t, where, p, &want)
		if got := drained(p); !same(got, sorted) {
			t.Fatalf("9.2: %s: drained: %+v, Sorted ahead of it: %+v", where, got, sorted)
		}
		nothing(t, where, p)
	}
}

func TestTurns(t *testing.T) {
	turns(t, "names", drawName, 20)
	turns(t, "events", drawEvent, 21)
	turns(t, "matches", drawMatch, 22)
	turns(t, "waitings", drawWaiting, 23)
	turns(t, "cards", drawCard, 24)
}

// Promises 9.2 and 9.3: scattered lists, by the promises' own words and against the plain sort. mark tells things apart; -1: it cannot.
func sortsStably[T api.Ranked[T]](t *testing.T, where string, k kind[T], seed uint64, mark func(T) int) {
	pick := scatter(seed)
	evens := 0
	for range 700 {
		l := k.drawn(pick, 45)
		got := pile.Sort(l)
		if !maps.Equal(counted(got), counted(l)) {
			t.Fatalf("9.3: %s: Sort of %+v has other things: %+v", where, l, got)
		}
		for i, x := range got {
			for _, y := range got[i+1:] {
				if y.Before(x) {
					t.Fatalf("9.3: %s: %+v stands behind %+v", where, y, x)
				}
				if even := !x.Before(y); even && mark(x) >= 0 {
					evens++
					if mark(x) >= mark(y) {
						t.Fatalf("9.3: %s: even ones do not stand as in the list: %+v, %+v", where, x, y)
					}
				}
			}
		}
		if !same(got, stable(l)) {
			t.Fatalf("9.3: %s: Sort of %+v: %+v", where, l, got)
		}
		p := of(l...)
		if sorted := p.Sorted(); !same(got, sorted) || !same(got, drained(p)) {
			t.Fatalf("9.2: %s: Sort of %+v: %+v, laid down and popped otherwise", where, l, got)
		}
	}
	if evens < 1000 && mark(*new(T)) >= 0 {
		t.Errorf("9.3: %s: %d even ones: too few", where, evens)
	}
}

func TestSortedAndStable(t *testing.T) {
	sortsStably(t, "names", drawName, 30, func(api.Name) int { return -1 })
	sortsStably(t, "events", drawEvent, 31, func(e api.Event) int { return e.Type })
	sortsStably(t, "matches", drawMatch, 32, func(m api.Match) int {
		if len(m.Vals) == 0 {
			return 0
		}
		return int(m.Vals[0].N)
	})
	sortsStably(t, "waitings", drawWaiting, 33, func(w api.Waiting) int {
		if len(w.Bound) == 0 {
			return 0
		}
		return w.Bound[0][0].Type
	})
	sortsStably(t, "cards", drawCard, 34, func(c card) int { return c.mark })
}

// Promise 9.4: scattered lists no two things of which are even, in other orders.
func anyOrder[T api.Ranked[T]](t *testing.T, where string, k kind[T], seed uint64) {
	pick := scatter(seed)
	longest := 0
	for range 300 {
		var uneven []T
		for _, x := range k.drawn(pick, 60) {
			if !slices.ContainsFunc(uneven, func(y T) bool { return !x.Before(y) && !y.Before(x) }) {
				uneven = append(uneven, x)
			}
		}
		longest = max(longest, len(uneven))
		want := pile.Sort(uneven)
		for i, other := range [][]T{turned(uneven), want, turned(want), shuffled(pick, uneven), shuffled(pick, uneven), shuffled(pick, uneven)} {
			if got := pile.Sort(other); !same(got, want) {
				t.Fatalf("9.4: %s: order %d of %+v: %+v, want %+v", where, i, uneven, got, want)
			}
			if got := drained(of(other...)); !same(got, want) {
				t.Fatalf("9.4: %s: order %d of %+v, popped: %+v, want %+v", where, i, uneven, got, want)
			}
		}
	}
	if longest < 6 {
		t.Errorf("9.4: %s: the longest list has %d things: too few", where, longest)
	}
}

func TestAnyOrder(t *testing.T) {
	anyOrder(t, "names", drawName, 40)
	anyOrder(t, "events", drawEvent, 41)
	anyOrder(t, "matches", drawMatch, 42)
	anyOrder(t, "waitings", drawWaiting, 43)
	anyOrder(t, "cards", drawCard, 44)
	inOrder(t, "every order", card{1, 0}, card{2, 0}, card{3, 0}, card{4, 0}, card{5, 0}, card{6, 0}, card{7, 0}, card{8, 0})
}

// long: how many things the long lists have.
const long = 200000

// longLists: sorted ones, turned round, all even, in a few runs, up and down in turns, scattered.
func longLists() [][]card {
	pick := scatter(5)
	out := make([][]card, 7)
	for i := range long {
		for j, rank := range []int{i, long - i, 7, i % 5, i / 1000, i * (1 - 2*(i%2)), pick(long / 3)} {
			out[j] = append(out[j], card{rank, i})
		}
	}
	return out
}

// Promises 9.2 to 9.4: long lists.
func TestLongLists(t *testing.T) {
	for i, l := range longLists() {
		want := slices.Clone(l)
		slices.SortStableFunc(want, func(c, d card) int { return cmp.Compare(c.rank, d.rank) })
		if got := pile.Sort(l); !slices.Equal(got, want) {
			t.Errorf("list %d: Sort is not the plain sort", i)
		}
		p := of(l...)
		if got := p.Sorted(); p.Len() != long || !slices.Equal(got, want) {
			t.Errorf("list %d: Sorted is not the plain sort", i)
		}
		if got := drained(p); !slices.Equal(got, want) {
			t.Errorf("list %d: drained is not the plain sort", i)
		}
	}
}

// weighed: a card that counts how often it is asked.
type weighed struct {
	rank  int
	asked *int
}

func (w weighed) Before(v weighed) bool {
	*w.asked++
	return w.rank < v.rank
}

// Promise 9.5: by the questions that are asked: a binary heap asks one on each level at Push and two at Pop.
func TestCost(t *testing.T) {
	for i, l := range longLists() {
		asked := 0
		p := pile.New[weighed]()
		spent := func() int {
			n := asked
			asked = 0
			return n
		}
		quiet := func() {
			p.Peek()
			if p.Len(); spent() != 0 {
				t.Fatalf("9.5: list %d: Peek or Len asks", i)
			}
		}
		for _, c := range l {
			p.Push(weighed{c.rank, &asked})
			if n, levels := spent(), bits.Len(uint(p.Len())); n > levels {
				t.Fatalf("9.5: list %d: Push asks %d times with %d things", i, n, p.Len())
			}
			quiet()
		}
		for p.Len() > 0 {
			levels := bits.Len(uint(p.Len()))
			p.Pop()
			if n := spent(); n > 2*levels {
				t.Fatalf("9.5: list %d: Pop asks %d times with %d things", i, n, p.Len()+1)
			}
			quiet()
		}
	}
}

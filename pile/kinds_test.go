package pile_test

import (
	"fmt"
	"math"
	"slices"
	"testing"

	"sluice/api"
)

// scatter: numbers below n that look drawn, the same ones for one seed.
func scatter(seed uint64) func(n int) int {
	state := 88172645463325252 + seed<<32
	return func(n int) int {
		state ^= state << 13
		state ^= state >> 7
		state ^= state << 17
		return int(state % uint64(n))
	}
}

// told: any value as a text, nil and empty lists being the same.
func told(x any) string { return fmt.Sprintf("%+v", x) }

func name(ts int64, id uint64) api.Name { return api.Name{Ts: ts, Id: id} }

// ev: an event that bears a mark, which its order does not see.
func ev(ts int64, id uint64, mark int) api.Event {
	return api.Event{Ts: ts, Id: id, Type: mark, Attrs: [api.MaxAttrs]int64{7: int64(-mark)}}
}

// mt: a match that bears a mark, which its order does not see.
func mt(decide int64, names []api.Name, lens []int, mark int) api.Match {
	return api.Match{Decide: decide, Names: names, Lens: lens, Vals: []api.Val{{Known: true, N: int64(mark)}}}
}

// wt: a waiting match that bears its mark in its binding.
func wt(decide int64, names []api.Name, lens []int, mark int) api.Waiting {
	m := mt(decide, names, lens, 0)
	return api.Waiting{Match: m, Bound: api.Binding{{ev(0, 0, mark)}}}
}

// card: a type of the tests' own. Its order is that of its rank.
type card struct {
	rank int
	mark int
}

func (c card) Before(d card) bool { return c.rank < d.rank }

// kind: how things of a type are drawn, each with the mark that it is given, if the type has room for one.
type kind[T api.Ranked[T]] func(pick func(int) int, mark int) T

var wildTimes = []int64{math.MinInt64, api.NoMark, api.MinTs, -1, 0, 1, api.MaxTs, math.MaxInt64}

var wildIds = []uint64{0, 1, math.MaxInt64, 1 << 63, math.MaxUint64}

func drawName(pick func(int) int, _ int) api.Name {
	if pick(4) == 0 {
		return name(wildTimes[pick(len(wildTimes))], wildIds[pick(len(wildIds))])
	}
	return name(int64(pick(5)-2), uint64(pick(3)))
}

func drawEvent(pick func(int) int, mark int) api.Event {
	n := drawName(pick, 0)
	return ev(n.Ts, n.Id, mark)
}

// drawLists: names and lengths from a few, so that one list is often another one, or its beginning.
func drawLists(pick func(int) int) (names []api.Name, lens []int) {
	for range pick(3) {
		names = append(names, name(int64(pick(2)), uint64(pick(2))))
	}
	for range pick(3) {
		lens = append(lens, pick(2))
	}
	return names, lens
}

func drawMatch(pick func(int) int, mark int) api.Match {
	names, lens := drawLists(pick)
	return mt(int64(pick(3)-1), names, lens, mark)
}

func drawWaiting(pick func(int) int, mark int) api.Waiting {
	names, lens := drawLists(pick)
	return wt(int64(pick(3)-1), names, lens, mark)
}

func drawCard(pick func(int) int, mark int) card { return card{pick(6), mark} }

// drawn: a list of up to so many things, marked from 0 on.
func (k kind[T]) drawn(pick func(int) int, most int) []T {
	var out []T
	for mark := range pick(most + 1) {
		out = append(out, k(pick, mark))
	}
	return out
}

// same: are the lists the same, thing by thing?
func same[T any](a, b []T) bool {
	return slices.EqualFunc(a, b, func(x, y T) bool { return told(x) == told(y) })
}

// turned: the list from its last thing to its first one.
func turned[T any](l []T) []T {
	l = slices.Clone(l)
	slices.Reverse(l)
	return l
}

// shuffled: the list's things in another order.
func shuffled[T any](pick func(int) int, l []T) []T {
	l = slices.Clone(l)
	for i := range l {
		j := i + pick(len(l)-i)
		l[i], l[j] = l[j], l[i]
	}
	return l
}

// orders hands every order of a list's things over.
func orders[T any](l []T, tell func([]T)) {
	l = slices.Clone(l)
	var from func(at int)
	from = func(at int) {
		if at == len(l) {
			tell(l)
			return
		}
		for i := at; i < len(l); i++ {
			l[at], l[i] = l[i], l[at]
			from(at + 1)
			l[at], l[i] = l[i], l[at]
		}
	}
	from(0)
}

// Every order of a few things comes up, each once.
func TestOrdersAreAllOfThem(t *testing.T) {
	seen := map[string]int{}
	orders([]int{1, 2, 3, 4, 5}, func(l []int) { seen[told(l)]++ })
	if len(seen) != 120 {
		t.Errorf("%d orders of five things", len(seen))
	}
}

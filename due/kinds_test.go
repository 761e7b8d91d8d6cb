package due_test

import (
	"fmt"
	"math"
	"slices"
	"strconv"
	"strings"
	"testing"

	"sluice/api"
)

// scatter: numbers below n that look drawn, the same ones for one seed.
func scatter(seed uint64) func(n int) int {
	state := 88172645463325252 + seed<<32
	return func(n int) int {
		state ^= state << 13
		state ^= state >> 7
		state ^= state << 17
		return int(state % uint64(n))
	}
}

// told: any value as a text, nil and empty lists being the same.
func told(x any) string { return fmt.Sprintf("%+v", x) }

// sameMatch: have they the same in them, all of it? Nil and empty lists are the same.
func sameMatch(a, b api.Match) bool {
	return a.Decide == b.Decide && slices.Equal(a.Names, b.Names) && slices.Equal(a.Lens, b.Lens) && slices.Equal(a.Vals, b.Vals)
}

func sameMatches(a, b []api.Match) bool { return slices.EqualFunc(a, b, sameMatch) }

// same: the same of what waits, with what is bound.
func same(a, b []api.Waiting) bool {
	return slices.EqualFunc(a, b, func(v, w api.Waiting) bool {
		return sameMatch(v.Match, w.Match) && slices.EqualFunc(v.Bound, w.Bound, slices.Equal)
	})
}

func name(ts int64, id uint64) api.Name { return api.Name{Ts: ts, Id: id} }

// wt: a waiting match that bears a sign in its results and in what is bound, where neither its order nor alikeness sees it.
func wt(decide int64, names []api.Name, lens []int, sign int) api.Waiting {
	e, f := api.Event{Ts: int64(sign)}, api.Event{Type: sign, Attrs: [api.MaxAttrs]int64{7: int64(-sign)}}
	m := api.Match{Decide: decide, Names: names, Lens: lens, Vals: []api.Val{{Known: true, N: int64(sign)}, {}}}
	return api.Waiting{Match: m, Bound: api.Binding{{e}, {f, e}}}
}

// number: a number of a test's text.
func number(text string) int64 {
	n, err := strconv.ParseInt(text, 10, 64)
	if err != nil {
		panic(err)
	}
	return n
}

// w: a waiting match as the chapter writes it, `5 1/1,3/2 2`, where `-` is no names, or no lengths.
func w(text string, sign int) api.Waiting {
	parts := strings.Fields(text)
	var names []api.Name
	var lens []int
	if parts[1] != "-" {
		for n := range strings.SplitSeq(parts[1], ",") {
			ts, id, _ := strings.Cut(n, "/")
			names = append(names, name(number(ts), uint64(number(id))))
		}
	}
	if parts[2] != "-" {
		for n := range strings.SplitSeq(parts[2], ",") {
			lens = append(lens, int(number(n)))
		}
	}
	return wt(number(parts[0]), names, lens, sign)
}

// all: several of them, with the signs from 1 on.
func all(texts ...string) []api.Waiting {
	var out []api.Waiting
	for i, text := range texts {
		out = append(out, w(text, i+1))
	}
	return out
}

// matches: the matches of what waits.
func matches(l []api.Waiting) []api.Match {
	var out []api.Match
	for _, w := range l {
		out = append(out, w.Match)
	}
	return out
}

// spelt: matches as the chapter writes them, each with its first result's number.
func spelt(l []api.Match) string {
	var out []string
	for _, m := range l {
		var names []string
		for _, n := range m.Names {
			names = append(names, fmt.Sprintf("%d/%d", n.Ts, n.Id))
		}
		text := fmt.Sprintf("%d %s %v", m.Decide, strings.Join(names, ","), m.Lens)
		if len(m.Vals) > 0 {
			text += fmt.Sprintf(" (%d)", m.Vals[0].N)
		}
		out = append(out, text)
	}
	return "[" + strings.Join(out, "; ") + "]"
}

// shown: the same of what waits.
func shown(l []api.Waiting) string { return spelt(matches(l)) }

// cloned: a waiting match in memory of its own.
func cloned(w api.Waiting) api.Waiting {
	w.Names, w.Lens, w.Vals, w.Bound = slices.Clone(w.Names), slices.Clone(w.Lens), slices.Clone(w.Vals), slices.Clone(w.Bound)
	for i := range w.Bound {
		w.Bound[i] = slices.Clone(w.Bound[i])
	}
	return w
}

var wildTimes = []int64{math.MinInt64, math.MinInt64 + 1, api.NoMark, api.MinTs, -1, 0, 1, api.MaxTs, math.MaxInt64 - 1, math.MaxInt64}

var wildIds = []uint64{0, 1, math.MaxInt64, 1 << 63, math.MaxUint64 - 1, math.MaxUint64}

var wildLens = []int{math.MinInt, -1, 0, 1, 2, math.MaxInt32, math.MaxInt}

// drawLists: names and lengths from a few, so that one list is often another one, or its beginning; nil ones and empty ones.
func drawLists(pick func(int) int) (names []api.Name, lens []int) {
	if pick(2) == 0 {
		names, lens = []api.Name{}, []int{}
	}
	for range pick(3) {
		names = append(names, name(int64(pick(2)), uint64(pick(2))))
	}
	for range pick(3) {
		lens = append(lens, pick(2))
	}
	return names, lens
}

// drawWaiting: most often one that is decided near 0 and has a few small names, now and then one of wild numbers.
func drawWaiting(pick func(int) int, sign int) api.Waiting {
	names, lens := drawLists(pick)
	out := wt(int64(pick(4)-1), names, lens, sign)
	switch pick(12) {
	case 0:
		out.Decide = wildTimes[pick(len(wildTimes))]
	case 1:
		out.Names = append(out.Names, name(wildTimes[pick(len(wildTimes))], wildIds[pick(len(wildIds))]))
	case 2:
		out.Lens = append(out.Lens, wildLens[pick(len(wildLens))])
	case 3:
		out.Vals, out.Bound = nil, api.Binding{nil, {}, {{Ts: int64(sign)}}}
	case 4:
		out.Vals, out.Bound = []api.Val{}, nil
	}
	return out
}

// drawMark: most often one near 0, now and then a wild one.
func drawMark(pick func(int) int) int64 {
	if pick(8) == 0 {
		return wildTimes[pick(len(wildTimes))]
	}
	return int64(pick(7) - 3)
}

// shuffled: the list's things in another order.
func shuffled[T any](pick func(int) int, l []T) []T {
	l = slices.Clone(l)
	for i := range l {
		j := i + pick(len(l)-i)
		l[i], l[j] = l[j], l[i]
	}
	return l
}

// orders hands every order of a list's things over.
func orders[T any](l []T, tell func([]T)) {
	l = slices.Clone(l)
	var from func(at int)
	from = func(at int) {
		if at == len(l) {
			tell(l)
			return
		}
		for i := at; i < len(l); i++ {
			l[at], l[i] = l[i], l[at]
			from(at + 1)
			l[at], l[i] = l[i], l[at]
		}
	}
	from(0)
}

// What the tests write and read themselves.
func TestTexts(t *testing.T) {
	if got := shown(all("5 1/1,3/2 2,1", "-3 - -")); got != "[5 1/1,3/2 [2 1] (1); -3  [] (2)]" {
		t.Error(got)
	}
	seen := map[string]int{}
	orders([]int{1, 2, 3, 4}, func(l []int) { seen[told(l)]++ })
	if len(seen) != 24 {
		t.Errorf("%d orders of four things", len(seen))
	}
}

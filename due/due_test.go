package due_test

import (
	"fmt"
	"math"
	"slices"
	"testing"

	"sluice/api"
	"sluice/due"
)

// added: does Add answer so, each time?
func added(t *testing.T, d *due.Due, want bool, l ...api.Waiting) {
	t.Helper()
	for _, w := range l {
		if got := d.Add(w); got != want {
			t.Errorf("14.2: Add(%s): %v", shown([]api.Waiting{w}), got)
		}
	}
}

// taken: does Take answer these?
func taken(t *testing.T, d *due.Due, mark int64, want ...api.Waiting) {
	t.Helper()
	if got := d.Take(mark); !same(got, want) {
		t.Errorf("14.3: Take(%d): %s, want %s", mark, shown(got), shown(want))
	}
}

// holds: do just these wait, as List and Len tell them, twice in a row?
func holds(t *testing.T, where string, d *due.Due, want ...api.Waiting) {
	t.Helper()
	for range 2 {
		if got := d.Len(); got != len(want) {
			t.Fatalf("14.4: %s: Len: %d, want %d", where, got, len(want))
		}
		if got := d.List(); !same(got, want) {
			t.Fatalf("14.4: %s: List: %s, want %s", where, told(got), told(want))
		}
	}
}

// mergedInto: does Merge answer these?
func mergedInto(t *testing.T, want []api.Match, lists ...[]api.Match) {
	t.Helper()
	if got := due.Merge(lists...); !sameMatches(got, want) {
		t.Errorf("14.5: Merge: %s, want %s", spelt(got), spelt(want))
	}
}

// of: a new one to which these were added.
func of(t *testing.T, l ...api.Waiting) *due.Due {
	t.Helper()
	d := due.New()
	added(t, d, true, l...)
	return d
}

// The chapter's table.
func TestExamples(t *testing.T) {
	d := due.New()
	a, b := w("5 1/1,3/2 2", 1), w("5 1/1,3/2 1,1", 2)
	added(t, d, true, a, b)
	added(t, d, false, w("5 1/1,3/2 2", 9))
	c, e := w("3 1/1 1", 3), w("9 0/0 1", 4)
	added(t, d, true, c, e)
	holds(t, "four", d, c, b, a, e)
	taken(t, d, 2)
	taken(t, d, 5, c, b, a)
	holds(t, "one is left", d, e)
	added(t, d, true, c)
	holds(t, "one is back", d, c, e)
	mergedInto(t, nil)
	one, two, three := w("2 1/1 1", 1).Match, w("1 1/1 1", 0).Match, w("2 1/1 1", 2).Match
	mergedInto(t, []api.Match{two, one, three}, []api.Match{one}, []api.Match{two, three})
}

// Promise 14.1: nothing waits, so that nothing is taken at any mark.
func TestNew(t *testing.T) {
	for _, mark := range wildTimes {
		d := due.New()
		holds(t, "New", d)
		taken(t, d, mark)
		holds(t, "Take", d)
		added(t, d, true, w("0 1/1 1", 1))
		holds(t, "Add", d, w("0 1/1 1", 1))
	}
}

// unlike: no two of them are alike, and each is like another one in all but one thing; in their order.
var unlike = []string{
	"-1 1/1,3/2 2",
	"0 - -", "0 - 0", "0 - 0,0", "0 - 1",
	"0 0/1,3/2 2",
	"0 1/0,3/2 2",
	"0 1/1 -", "0 1/1 1", "0 1/1 2",
	"0 1/1,3/1 2",
	"0 1/1,3/2 -", "0 1/1,3/2 -1,3", "0 1/1,3/2 0,2", "0 1/1,3/2 1", "0 1/1,3/2 1,1", "0 1/1,3/2 2", "0 1/1,3/2 2,0", "0 1/1,3/2 3",
	"0 1/1,3/2,3/2 2", "0 1/1,3/2,4/0 2",
	"0 1/1,3/3 2",
	"0 1/1,4/2 2",
	"0 1/2,3/2 2",
	"0 2/1,3/2 2",
	"0 3/2,1/1 2",
	"1 1/1,3/2 2",
}

// Promise 14.2: one thing in which two matches differ is enough, whichever comes first, and whatever else waits.
func TestAddOfUnlikeOnes(t *testing.T) {
	l := all(unlike...)
	for i, v := range l {
		for j, w := range l {
			if i != j {
				holds(t, "two", of(t, v, w), l[min(i, j)], l[max(i, j)])
			}
		}
	}
	pick := scatter(1)
	for range 20 {
		d := of(t, shuffled(pick, l)...)
		holds(t, "all", d, l...)
		added(t, d, false, all(unlike...)...)
		holds(t, "all, refused once more", d, l...)
	}
}

// Promise 14.2: results and what is bound do not count: the one that came first stays as it is.
func TestAddOfAlikeOnes(t *testing.T) {
	for _, text := range unlike {
		first := w(text, 1)
		others := []api.Waiting{first, w(text, 2), w(text, 1), w(text, 1), w(text, 1), w(text, 1), w(text, 1)}
		others[2].Vals = nil
		others[3].Vals[0].Known = false
		others[4].Bound = nil
		others[5].Bound[1][0].Id++
		others[6].Bound = append(others[6].Bound, nil)
		for _, other := range others {
			d := of(t, first)
			added(t, d, false, other, other)
			holds(t, "alike", d, first)
			d = of(t, other)
			added(t, d, false, first)
			holds(t, "alike", d, other)
			taken(t, d, 1, other)
		}
	}
}

// Promise 14.2: a nil list is an empty one.
func TestNilAndEmptyLists(t *testing.T) {
	nils := []api.Waiting{{}, {Match: api.Match{Decide: 1, Lens: []int{1}}}, {Match: api.Match{Decide: 2, Names: []api.Name{name(1, 1)}}}}
	empties := []api.Waiting{
		{Match: api.Match{Names: []api.Name{}, Lens: []int{}, Vals: []api.Val{}}, Bound: api.Binding{}},
		{Match: api.Match{Decide: 1, Names: []api.Name{}, Lens: []int{1}}, Bound: api.Binding{{}, nil}},
		{Match: api.Match{Decide: 2, Names: []api.Name{name(1, 1)}, Lens: []int{}}, Bound: api.Binding{}},
	}
	d := of(t, nils...)
	added(t, d, false, empties...)
	holds(t, "nil lists", d, nils...)
	taken(t, d, 2, nils...)
	d = of(t, empties...)
	added(t, d, false, nils...)
	holds(t, "empty lists", d, empties...)
	taken(t, d, 2, empties...)
	lists := [][]api.Match{matches(nils), matches(empties)}
	mergedInto(t, merged(lists...), lists...)
}

// Promise 14.3: marks below all, just at a Decide, just below it, between two, above all, and at both ends of int64.
func TestTake(t *testing.T) {
	var l []api.Waiting
	for i, decide := range []int64{math.MinInt64, math.MinInt64 + 1, -7, 0, 0, 0, 7, math.MaxInt64 - 1, math.MaxInt64} {
		l = append(l, wt(decide, []api.Name{name(1, uint64(i))}, []int{1}, i))
	}
	for mark, count := range map[int64]int{math.MinInt64: 1, math.MinInt64 + 1: 2, math.MinInt64 + 2: 2, -8: 2, -7: 3, -6: 3, -1: 3, 0: 6, 1: 6, 6: 6, 7: 7, 8: 7, math.MaxInt64 - 2: 7, math.MaxInt64 - 1: 8, math.MaxInt64: 9} {
		d := of(t, l...)
		taken(t, d, mark, l[:count]...)
		holds(t, fmt.Sprint("Take at ", mark), d, l[count:]...)
		taken(t, d, mark)
		holds(t, "Take once more", d, l[count:]...)
	}
	d := of(t, l[2:]...)
	taken(t, d, -8)
	taken(t, d, math.MinInt64)
	holds(t, "Take below all", d, l[2:]...)
}

// Promise 14.3: a mark that falls takes what was added at or below it since.
func TestTakeAtAMarkThatFalls(t *testing.T) {
	l := all("1 1/1 1", "2 1/1 1", "3 1/1 1", "4 1/1 1", "5 1/1 1")
	d := of(t, l[0], l[3])
	taken(t, d, 3, l[0])
	added(t, d, true, l[1], l[2], l[4])
	taken(t, d, 0)
	taken(t, d, 2, l[1])
	holds(t, "Take at a lesser mark", d, l[2:]...)
	taken(t, d, 1)
	taken(t, d, 4, l[2], l[3])
	added(t, d, true, l[0])
	taken(t, d, math.MinInt64)
	taken(t, d, 1, l[0])
	holds(t, "the last one", d, l[4])
}

// Promise 14.3: what was taken waits no longer, so that it may be added again, and its like, in whatever order.
func TestAddOfWhatWasTaken(t *testing.T) {
	l := all(unlike...)
	d := of(t, l...)
	for mark := int64(-2); mark < 3; mark++ {
		took := d.Take(mark)
		for _, w := range l {
			added(t, d, slices.ContainsFunc(took, func(v api.Waiting) bool { return isAlike(v.Match, w.Match) }), w)
		}
		holds(t, "all are back", d, l...)
	}
	taken(t, d, 1, l...)
	slices.Reverse(l)
	added(t, d, true, l...)
	added(t, d, false, l...)
	slices.Reverse(l)
	holds(t, "all are back, the last one first", d, l...)
}

// Promises 14.2 and 14.3: one that was refused and whose like was then taken is added as it is.
func TestAddOfWhatWasRefused(t *testing.T) {
	for _, text := range unlike {
		first, other := w(text, 1), w(text, 2)
		d := of(t, first)
		added(t, d, false, other)
		taken(t, d, -2)
		added(t, d, false, other)
		taken(t, d, 1, first)
		added(t, d, true, other)
		added(t, d, false, first)
		holds(t, "the other one", d, other)
		taken(t, d, 1, other)
		holds(t, "none", d)
	}
}

// Promise 14.4: List changes nothing; Len behind each call.
func TestListAndLen(t *testing.T) {
	d := due.New()
	l := all("3 1/1 1", "3 1/1 2", "4 0/0 1", "5 9/9 1")
	var waits []api.Waiting
	for _, i := range []int{2, 0, 3, 1} {
		added(t, d, true, l[i])
		waits = append(waits, l[i])
		slices.SortFunc(waits, func(v, w api.Waiting) int { return compare(v.Match, w.Match) })
		holds(t, "Add", d, waits...)
		added(t, d, false, l[i])
		holds(t, "Add once more", d, waits...)
	}
	taken(t, d, 3, l[0], l[1])
	holds(t, "Take", d, l[2], l[3])
	taken(t, d, 3)
	holds(t, "Take once more", d, l[2], l[3])
	taken(t, d, 9, l[2], l[3])
	holds(t, "Take of the rest", d)
}

// Promise 14.5: no list, empty lists, one list, lists that are not sorted, alike matches in one list and in several, the same list twice.
func TestMerge(t *testing.T) {
	mergedInto(t, nil)
	mergedInto(t, nil, nil)
	mergedInto(t, nil, nil, []api.Match{}, nil)
	l := matches(all("1 - -", "2 1/1 1", "2 1/1 1", "2 1/2 1", "7 0/0 1"))
	mergedInto(t, l, l)
	mergedInto(t, l, nil, l, []api.Match{})
	mergedInto(t, l, []api.Match{l[4], l[1], l[0]}, nil, []api.Match{l[3], l[2]})
	mergedInto(t, []api.Match{l[0], l[2], l[1], l[3], l[4]}, []api.Match{l[2]}, []api.Match{l[4], l[3], l[1], l[0]})
	mergedInto(t, []api.Match{l[0], l[2], l[1], l[3], l[4]}, []api.Match{l[4], l[2], l[1]}, []api.Match{l[3], l[0]})
	mergedInto(t, []api.Match{l[0], l[0], l[1], l[2], l[1], l[2], l[3], l[3], l[4], l[4]}, l, l)
	mergedInto(t, []api.Match{l[4], l[4], l[4]}, l[4:], l[4:], l[4:])
}

// Promise 14.5: matches of all kinds, alike ones in three lists and twice in one.
func TestMergeOfAllKinds(t *testing.T) {
	var want, one, two, three []api.Match
	for i, text := range unlike {
		l := []api.Match{w(text, 4*i).Match, w(text, 4*i+1).Match, w(text, 4*i+2).Match, w(text, 4*i+3).Match}
		want = append(want, l...)
		one, two, three = append(one, l[0]), append(two, l[1], l[2]), append(three, l[3])
	}
	mergedInto(t, want, one, two, three)
	slices.Reverse(one)
	slices.Reverse(three)
	mergedInto(t, want, one, two, three)
	slices.Reverse(one)
	pick := scatter(3)
	for range 50 {
		mergedInto(t, want, shuffled(pick, one), two, shuffled(pick, three))
	}
}

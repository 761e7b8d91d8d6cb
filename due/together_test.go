package due_test

import (
	"fmt"
	"slices"
	"testing"

	"sluice/api"
	"sluice/due"
)

// Every row of a few steps, against the second one: matches two of which are alike and two of which differ in their lengths, marks below, between and above.
func TestEveryRowOfSteps(t *testing.T) {
	const most = 5
	texts := []string{"1 1/1,2/2 2", "1 1/1,2/2 1,1", "1 1/1,2/2 2", "0 1/1 1", "2 0/0 1"}
	var row []int
	var from func()
	from = func() {
		if len(row) == most {
			p := open(t, fmt.Sprint("steps ", row))
			for sign, step := range row {
				if step < len(texts) {
					p.add(w(texts[step], sign))
				} else {
					p.take(int64(step - len(texts)))
				}
			}
			return
		}
		for step := range len(texts) + 3 {
			row = append(row, step)
			from()
			row = row[:len(row)-1]
		}
	}
	from()
}

// Promises 14.2 to 14.4 over scattered scripts, against the second one.
func TestScatteredScripts(t *testing.T) {
	pick := scatter(11)
	refused, took, most := 0, 0, 0
	for round := range 400 {
		p := open(t, fmt.Sprint("script ", round))
		for sign := range 80 {
			if pick(9) == 0 {
				took += len(p.take(drawMark(pick)))
			} else if !p.add(drawWaiting(pick, sign)) {
				refused++
			}
			most = max(most, p.due.Len())
		}
	}
	if refused < 1000 || took < 5000 || most < 40 {
		t.Errorf("%d were refused, %d taken, at most %d waited: too few", refused, took, most)
	}
}

// rising: is no match before the one ahead of it?
func rising(l []api.Waiting) bool {
	return slices.IsSortedFunc(l, func(v, w api.Waiting) int { return compare(v.Match, w.Match) })
}

// turn: what is added ahead of a mark, all of it above the mark before.
type turn struct {
	added []api.Waiting
	mark  int64
}

// script: a few turns with rising marks, and unlike matches.
func script(pick func(int) int) []turn {
	var out []turn
	var seen second
	mark := int64(-5)
	for range 1 + pick(8) {
		var l []api.Waiting
		for range pick(15) {
			names, lens := drawLists(pick)
			if w := wt(mark+1+int64(pick(9)), names, lens, len(seen.waits)); seen.add(w) {
				l = append(l, w)
			}
		}
		mark += int64(pick(6))
		out = append(out, turn{l, mark})
	}
	return out
}

// Promise 14.6: marks that rise, what is added being above the mark before: all answers, one behind the other, are rising, and what waits goes on behind them; in the end they are all that was added, sorted once.
func TestFirm(t *testing.T) {
	pick := scatter(21)
	long := 0
	for range 600 {
		d := due.New()
		var given, took []api.Waiting
		for _, u := range script(pick) {
			added(t, d, true, u.added...)
			given = append(given, u.added...)
			took = append(took, d.Take(u.mark)...)
			if !rising(slices.Concat(took, d.List())) || len(took)+d.Len() != len(given) {
				t.Fatalf("14.6: %s, waiting: %s", shown(took), shown(d.List()))
			}
		}
		took = append(took, d.Take(1000)...)
		slices.SortFunc(given, func(v, w api.Waiting) int { return compare(v.Match, w.Match) })
		if !same(took, given) {
			t.Fatalf("14.6: %s, want %s", shown(took), shown(given))
		}
		long = max(long, len(took))
	}
	if long < 50 {
		t.Errorf("14.6: the longest row has %d matches: too few", long)
	}
}

// cuts: up to four marks from one up to another one, not falling, the last of them being that one.
func cuts(pick func(int) int, from, to int64) []int64 {
	var out []int64
	for range pick(4) {
		out = append(out, from+int64(pick(int(to-from)+1)))
	}
	slices.Sort(out)
	return append(out, to)
}

// Promise 14.6: scripts whose marks rise, each of them cut at other marks ahead of it: together they answer what it alone does, and leave the same.
func TestTakesTogether(t *testing.T) {
	pick := scatter(31)
	parts := 0
	for range 600 {
		one, many := due.New(), due.New()
		from := int64(-9)
		for _, u := range script(pick) {
			added(t, one, true, u.added...)
			added(t, many, true, u.added...)
			var together []api.Waiting
			for _, mark := range cuts(pick, from, u.mark) {
				l := many.Take(mark)
				together = append(together, l...)
				parts += min(len(l), 1)
			}
			taken(t, one, u.mark, together...)
			holds(t, "14.6: what is left", one, many.List()...)
			from = u.mark
		}
	}
	if parts < 1500 {
		t.Errorf("14.6: %d answers were not empty: too few", parts)
	}
}

// Promise 14.6: the same matches, cut at each two marks.
func TestTakesAtEachTwoMarks(t *testing.T) {
	pick := scatter(41)
	for range 20 {
		var l []api.Waiting
		for _, u := range script(pick) {
			l = append(l, u.added...)
		}
		for a := int64(-6); a < 40; a += 1 + int64(pick(2)) {
			for b := a; b < 40; b += 1 + int64(pick(4)) {
				one, two := of(t, l...), of(t, l...)
				first := two.Take(a)
				taken(t, one, b, append(first, two.Take(b)...)...)
				holds(t, "14.6: what is left", two, one.List()...)
			}
		}
	}
}

// What waits does not hang on the order in which it came.
func TestEveryOrderOfAdding(t *testing.T) {
	l := all("0 2/2 1", "1 - -", "1 1/1 1", "1 1/1,2/2 1,1", "1 1/1,2/2 2", "3 0/0 1")
	tried := 0
	orders(l, func(some []api.Waiting) {
		d := of(t, some...)
		holds(t, "all", d, l...)
		taken(t, d, 0, l[0])
		taken(t, d, 2, l[1:5]...)
		taken(t, d, 3, l[5])
		tried++
	})
	if tried != 720 {
		t.Errorf("%d orders of six matches", tried)
	}
}

// drawMatches: lists of matches with signs from 1 on, all in all: sorted ones, others, nil ones, one of the others again.
func drawMatches(pick func(int) int) [][]api.Match {
	var out [][]api.Match
	sign := 0
	for range pick(6) {
		if len(out) > 0 && pick(4) == 0 {
			out = append(out, out[pick(len(out))])
			continue
		}
		var l []api.Match
		for range pick(3) * pick(12) {
			sign++
			l = append(l, drawWaiting(pick, sign).Match)
		}
		if pick(2) == 0 {
			slices.SortStableFunc(l, compare)
		}
		out = append(out, l)
	}
	return out
}

// Promise 14.5 over scattered lists, against one stable sort of all of them, one behind the other.
func TestMergeIsAStableSort(t *testing.T) {
	pick := scatter(51)
	even, long := 0, 0
	for range 3000 {
		lists := drawMatches(pick)
		want := merged(lists...)
		mergedInto(t, want, lists...)
		mergedInto(t, want, slices.Concat(lists...))
		for i := 1; i < len(want); i++ {
			if compare(want[i-1], want[i]) == 0 {
				even++
			}
		}
		long = max(long, len(want))
	}
	if even < 5000 || long < 60 {
		t.Errorf("14.5: %d times alike ones, at most %d matches: too few", even, long)
	}
}

// Promise 14.5: lists that were merged merge with others as they do themselves.
func TestMergeOfMerges(t *testing.T) {
	pick := scatter(61)
	for range 500 {
		lists := drawMatches(pick)
		want := merged(lists...)
		for cut := range lists {
			mergedInto(t, want, due.Merge(lists[:cut]...), due.Merge(lists[cut:]...))
		}
	}
}

// One list for each of very many partitions.
func TestMergeOfManyLists(t *testing.T) {
	pick := scatter(71)
	var lists [][]api.Match
	for i := range 5000 {
		var l []api.Match
		for range pick(4) {
			l = append(l, wt(int64(pick(100)), []api.Name{name(int64(pick(10)), uint64(i))}, []int{1}, i).Match)
		}
		slices.SortStableFunc(l, compare)
		lists = append(lists, l)
	}
	mergedInto(t, merged(lists...), lists...)
}

// What Takes of many answer, merged, is what one that has all of them takes: as long as no two of them are alike.
func TestTakesOfManyMerged(t *testing.T) {
	pick := scatter(81)
	for range 300 {
		whole, parts := due.New(), []*due.Due{due.New(), due.New(), due.New()}
		for _, u := range script(pick) {
			for _, w := range u.added {
				added(t, whole, true, w)
				added(t, parts[pick(len(parts))], true, w)
			}
			var lists [][]api.Match
			left := 0
			for _, d := range parts {
				lists = append(lists, matches(d.Take(u.mark)))
				left += d.Len()
			}
			mergedInto(t, matches(whole.Take(u.mark)), lists...)
			if left != whole.Len() {
				t.Fatalf("14.3: %d wait, want %d", left, whole.Len())
			}
		}
	}
}

package due_test

import (
	"cmp"
	"slices"
	"testing"

	"sluice/api"
	"sluice/due"
)

// second: what waits as a plain list, in the order in which it was added, which is searched and sorted anew each time.
type second struct{ waits []api.Waiting }

// compare: the order of matches, as the document says it.
func compare(a, b api.Match) int {
	return cmp.Or(cmp.Compare(a.Decide, b.Decide), slices.CompareFunc(a.Names, b.Names, compareNames), slices.Compare(a.Lens, b.Lens))
}

func compareNames(a, b api.Name) int {
	return cmp.Or(cmp.Compare(a.Ts, b.Ts), cmp.Compare(a.Id, b.Id))
}

// isAlike: the same Decide, Names and Lens.
func isAlike(a, b api.Match) bool {
	if a.Decide != b.Decide || len(a.Names) != len(b.Names) || len(a.Lens) != len(b.Lens) {
		return false
	}
	for i, n := range a.Names {
		if n.Ts != b.Names[i].Ts || n.Id != b.Names[i].Id {
			return false
		}
	}
	for i, n := range a.Lens {
		if n != b.Lens[i] {
			return false
		}
	}
	return true
}

func (s *second) add(w api.Waiting) bool {
	if slices.ContainsFunc(s.waits, func(v api.Waiting) bool { return isAlike(v.Match, w.Match) }) {
		return false
	}
	s.waits = append(s.waits, cloned(w))
	return true
}

func (s *second) list() []api.Waiting {
	out := slices.Clone(s.waits)
	slices.SortStableFunc(out, func(v, w api.Waiting) int { return compare(v.Match, w.Match) })
	return out
}

func (s *second) take(mark int64) []api.Waiting {
	isDue := func(w api.Waiting) bool { return w.Decide <= mark }
	out := slices.DeleteFunc(s.list(), func(w api.Waiting) bool { return !isDue(w) })
	s.waits = slices.DeleteFunc(s.waits, isDue)
	return out
}

// merged: one stable sort of all lists, one behind the other.
func merged(lists ...[]api.Match) []api.Match {
	var out []api.Match
	for _, l := range lists {
		out = append(out, l...)
	}
	slices.SortStableFunc(out, compare)
	return out
}

// pair: what waits beside the second one. Each step is told to both, and behind it both are asked all that changes nothing.
type pair struct {
	t     *testing.T
	where string
	due   *due.Due
	want  *second
}

// open: a new one beside a new second one.
func open(t *testing.T, where string) *pair {
	t.Helper()
	d := due.New()
	if d == nil {
		t.Fatalf("14.1: %s: New has answered nothing", where)
	}
	p := &pair{t, where, d, &second{}}
	p.asked("New")
	return p
}

// asked: Len and List, twice in a row.
func (p *pair) asked(call string) {
	p.t.Helper()
	holds(p.t, p.where+": "+call, p.due, p.want.list()...)
}

func (p *pair) add(w api.Waiting) bool {
	p.t.Helper()
	got, want := p.due.Add(w), p.want.add(w)
	if got != want {
		p.t.Fatalf("14.2: %s: Add(%s): %v", p.where, shown([]api.Waiting{w}), got)
	}
	p.asked("Add")
	return got
}

func (p *pair) take(mark int64) []api.Waiting {
	p.t.Helper()
	got, want := p.due.Take(mark), p.want.take(mark)
	if !same(got, want) {
		p.t.Fatalf("14.3: %s: Take(%d): %s, want %s", p.where, mark, shown(got), shown(want))
	}
	p.asked("Take")
	return got
}

// draw: a scattered step. Most of them add a match.
func (p *pair) draw(pick func(int) int, sign int) {
	p.t.Helper()
	if pick(5) == 0 {
		p.take(drawMark(pick))
		return
	}
	p.add(drawWaiting(pick, sign))
}

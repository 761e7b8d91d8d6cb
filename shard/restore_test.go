package shard_test

import (
	"math"
	"slices"
	"testing"

	"sluice/api"
	"sluice/shard"
)

// restores: is the state taken just as the document says, by the number of the first condition that is not so, 0 for none?
func restores(t *testing.T, where string, p api.Plan, mark int64, st state, flaw int) {
	t.Helper()
	text := func() string {
		return spellEvents(st.kept) + "; " + spell(st.waiting) + "; " + spellNames(st.used)
	}
	if got := flawOf(p, mark, st); got != flaw {
		t.Errorf("15.8: %s: at %d: %s: the document's condition %d is not so, want %d", where, mark, text(), got, flaw)
	}
	s, ok := shard.Restore(p, mark, st.kept, st.waiting, st.used)
	if ok != (flaw == 0) || (s != nil) != ok {
		t.Errorf("15.8: %s: Restore at %d: %s: %v, condition %d", where, mark, text(), ok, flaw)
	}
}

// stateOf: behind a script.
func stateOf(t *testing.T, query string, lines ...string) (api.Plan, int64, state) {
	t.Helper()
	x := script(t, query, lines...)
	return x.plan, x.want.mark, x.state()
}

// The state of which the tests below break a condition: at the mark 5 with the window 4 events are kept from 2 on.
const base = "SEQ(A a, C c, !B n) AFTER PAST WITHIN 4 PARTITION BY k RETURN 1 / a.x, a.k"

func baseState(t *testing.T) (api.Plan, int64, state) {
	t.Helper()
	p, mark, st := stateOf(t, base, "step 1/1 A 7 1, 2/1 C 7, 2/2 A 7 0, 3/1 C 7, 4/1 A 8 1, 5/1 C 8 -> true", "tick 5 -> 5 1/1,2/1 -> [{true 1} {true 7}]", "step 7/1 A 8 1, 8/1 C 8 -> true")
	if got := spellEvents(st.kept) + "; " + spell(st.waiting) + "; " + spellNames(st.used); got != "2/1 2/2 3/1 4/1 5/1 7/1 8/1; 6 2/2,3/1 -> [{false 0} {true 7}]; 8 4/1,5/1 -> [{true 1} {true 8}]; 8 4/1,8/1 -> [{true 1} {true 8}]; 11 7/1,8/1 -> [{true 1} {true 8}]; 2/1" {
		t.Fatal(got)
	}
	return p, mark, st
}

// Promise 15.8, condition 1: from NoMark on.
func TestRestoreMarks(t *testing.T) {
	p := made(base)
	for _, mark := range []int64{api.NoMark, api.MinTs, 0, api.MaxTs, api.MaxTs + 1, math.MaxInt64} {
		restores(t, base, p, mark, state{}, 0)
		s, _ := shard.Restore(p, mark, nil, nil, nil)
		nothing(t, base, s)
		if ts := mark + 1; ts > mark && (s.Step(ev(mark, 9, typeA, 7, 0)) || s.Step(ev(ts, 0, typeA, 7, 0)) != (ts <= api.MaxTs && ts >= api.MinTs)) {
			t.Errorf("15.8: at the mark %d a Step is answered otherwise", mark)
		}
	}
	for _, mark := range []int64{api.NoMark - 1, math.MinInt64 + 1, math.MinInt64} { // less the window some of them wrap
		restores(t, base, p, mark, state{}, 1)
		restores(t, base, p, mark, state{kept: events("1/1 A 7")}, 1)
	}
	restores(t, base, p, api.NoMark, state{kept: []api.Event{ev(api.MinTs, 0, typeA, 7, 0)}}, 0)
	restores(t, base, p, api.MinTs, state{kept: []api.Event{ev(api.MinTs, 0, typeA, 7, 0)}}, 0)
}

// Promise 15.8, condition 2: rising, of the schema, of the stream, above the mark less the window.
func TestRestoreKept(t *testing.T) {
	p, mark, st := baseState(t)
	restores(t, base, p, mark, st, 0)
	with := func(at int, e api.Event) state {
		return state{slices.Insert(slices.Clone(st.kept), at, e), st.waiting, st.used}
	}
	for _, c := range []struct {
		at   int
		e    api.Event
		flaw int
	}{
		{0, ev(2, 0, typeB, 7, 0), 0}, {0, ev(1, 9, typeB, 7, 0), 2}, {0, ev(1, 9, typeA, 9, 0), 2}, {0, ev(api.MinTs, 0, typeB, 9, 0), 2},
		{1, ev(2, 1, typeB, 9, 0), 2}, {0, ev(2, 1, typeB, 9, 0), 2}, {2, ev(3, 0, typeA, 9, 0), 0}, {2, ev(3, 0, typeB, 9, 0), 0}, {3, ev(3, 0, typeB, 9, 0), 2},
		{7, ev(8, 2, typeB, 9, 0), 0}, {7, ev(8, 1, typeB, 9, 0), 2}, {7, ev(8, 0, typeB, 9, 0), 2}, {7, ev(7, 9, typeB, 9, 0), 2},
		{7, ev(9, 0, typeD, 0, 0), 2}, {7, api.Event{Ts: 9, Type: -1}, 2}, {7, api.Event{Ts: 9, Type: 4}, 2}, {7, api.Event{Ts: 9, Type: typeC, Attrs: [8]int64{1, 1}}, 2},
		{7, ev(api.MaxTs, 0, typeB, 9, 0), 0}, {7, ev(api.MaxTs+1, 0, typeB, 9, 0), 2}, {7, ev(math.MaxInt64, 0, typeB, 9, 0), 2},
	} {
		restores(t, base, p, mark, with(c.at, c.e), c.flaw)
	}
	restores(t, base, p, mark, state{slices.Concat(st.kept[1:2], st.kept[:1], st.kept[2:]), st.waiting, st.used}, 2)
	restores(t, base, p, mark, state{slices.Concat(st.kept, st.kept[6:]), st.waiting, st.used}, 2)
	restores(t, base, p, 6, st, 2) // now the first one is at the mark less the window
	// Without a window nothing is kept at the mark.
	q := made("SEQ(A a) WITHIN 0")
	restores(t, "no window", q, 5, state{kept: events("6/0 A"), waiting: []api.Match{{Decide: 6, Names: names("6/0"), Lens: []int{1}}}}, 0)
	restores(t, "no window", q, 5, state{kept: events("5/0 A")}, 2)
}

// Promise 15.8, condition 3: rising names of kept events, at or below the mark; none with ALL, with PAST one of a key.
func TestRestoreUsed(t *testing.T) {
	for after, want := range map[api.After][]struct {
		used string
		flaw int
	}{
		api.AfterAll:  {{"", 0}, {"2/1", 3}, {"9/9", 3}},
		api.AfterNext: {{"", 0}, {"2/1", 0}, {"2/1 2/2", 0}, {"2/1 2/2 3/1 4/1 5/1", 0}, {"5/1", 0}, {"7/1", 3}, {"2/1 8/1", 3}, {"2/2 2/1", 3}, {"2/1 2/1", 3}, {"2/9", 3}, {"1/1", 3}, {"3/0", 3}, {"5/2", 3}, {"2/1 9/1", 3}, {"2/0", 3}},
		api.AfterPast: {{"", 0}, {"2/1", 0}, {"2/2", 0}, {"2/1 2/2", 3}, {"2/1 3/1", 3}, {"3/1 4/1", 0}, {"3/1 5/1", 0}, {"4/1 5/1", 3}, {"4/1 3/1", 3}, {"3/1 7/1", 3}, {"5/1 5/1", 3}, {"2/9", 3}, {"6/1", 3}},
		api.AfterOnce: {{"", 0}, {"2/1", 0}, {"2/1 2/2", 0}, {"3/1 4/1 5/1", 0}, {"7/1", 3}, {"3/1 2/2", 3}, {"4/1 4/1", 3}, {"4/9", 3}},
	} {
		q := read(base)
		q.After = after
		p := planned(q)
		_, mark, st := baseState(t)
		for _, c := range want {
			restores(t, base, p, mark, state{st.kept, st.waiting, names(c.used)}, c.flaw)
			if c.flaw > 0 {
				continue
			}
			x := reopen(t, base, p, mark, state{st.kept, st.waiting, names(c.used)})
			x.script("step 8/2 C 7 -> true")
			for mark := int64(6); mark < 14; mark++ {
				x.tick(mark)
			}
		}
	}
	// Names of kept events that no match of the clause would have used: of a negated item, of a component that is not the first.
	p, st := made("SEQ(A a, !B n, C c) AFTER NEXT WITHIN 4"), state{kept: events("1/1 A, 1/2 C, 1/3 B"), used: names("1/2 1/3")}
	restores(t, "other items", p, 2, st, 0)
	reopen(t, "other items", p, 2, st).script("used -> 1/2 1/3", "tick 4 ->", "used -> 1/2 1/3", "tick 5 ->", "used ->")
}

// Promise 15.8, conditions 4 and 5: waiting matches rising, each one of M, all in it as it is, and all that are left.
func TestRestoreWaiting(t *testing.T) {
	p, mark, st := baseState(t)
	changed := func(at int, change func(*api.Match)) []api.Match {
		l := cloned(st.waiting)
		change(&l[at])
		return l
	}
	w := st.waiting
	for i, c := range []struct {
		waiting []api.Match
		flaw    int
	}{
		{w, 0}, {cloned(w), 0},
		{slices.Concat(w[1:2], w[:1], w[2:]), 4}, {slices.Concat(w[:1], w[2:3], w[1:2], w[3:]), 4}, {slices.Concat(w, w[3:]), 4}, {slices.Concat(w[:1], w), 4}, {slices.Concat(w[:2], w[1:]), 4},
		{changed(0, func(m *api.Match) { m.Decide-- }), 4}, {changed(3, func(m *api.Match) { m.Decide++ }), 4},
		{changed(0, func(m *api.Match) { m.Names = names("2/2 4/1") }), 4}, {changed(0, func(m *api.Match) { m.Names = names("2/2") }), 4},
		{changed(0, func(m *api.Match) { m.Names = append(m.Names, api.Name{Ts: 3, Id: 2}) }), 4}, {changed(0, func(m *api.Match) { m.Names = nil }), 4},
		{changed(0, func(m *api.Match) { m.Lens = []int{2} }), 4}, {changed(0, func(m *api.Match) { m.Lens = []int{1, 1, 0} }), 4}, {changed(0, func(m *api.Match) { m.Lens = nil }), 4},
		{changed(0, func(m *api.Match) { m.Vals[0].N = 7 }), 4}, // unknown as well, but written otherwise
		{changed(0, func(m *api.Match) { m.Vals[0].Known = true }), 4}, {changed(0, func(m *api.Match) { m.Vals[1].N++ }), 4}, {changed(1, func(m *api.Match) { m.Vals[1].Known = false }), 4},
		{changed(3, func(m *api.Match) { m.Vals = m.Vals[:1] }), 4}, {changed(3, func(m *api.Match) { m.Vals = append(m.Vals, api.Val{}) }), 4}, {changed(3, func(m *api.Match) { m.Vals = nil }), 4},
		{[]api.Match{{}}, 4}, {append(slices.Clone(w), api.Match{Decide: 99}), 4}, {append([]api.Match{{}}, w...), 4},
		{nil, 5}, {w[1:], 5}, {w[:3], 5}, {slices.Concat(w[:1], w[2:]), 5}, {slices.Concat(w[:2], w[3:]), 5},
	} {
		if flaw := flawOf(p, mark, state{st.kept, c.waiting, st.used}); flaw != c.flaw {
			t.Errorf("row %d: condition %d, want %d", i, flaw, c.flaw)
		}
		restores(t, base, p, mark, state{st.kept, c.waiting, st.used}, c.flaw)
	}
	// One whose Decide is at the mark is told, and may not wait: without a trailing item it may be kept still.
	q, at, one := stateOf(t, "SEQ(A a, C c) WITHIN 4", "step 1/1 A, 3/1 C, 4/1 C -> true", "tick 3 -> 3 1/1,3/1")
	restores(t, "at the mark", q, at, one, 0)
	restores(t, "at the mark", q, at, state{one.kept, append([]api.Match{{Decide: 3, Names: names("1/1 3/1"), Lens: []int{1, 1}}}, one.waiting...), nil}, 4)
	restores(t, "at the mark", q, at, state{kept: one.kept}, 5)
	restores(t, "at the mark", q, 2, one, 5)
	restores(t, "at the mark", q, 4, one, 4)
	restores(t, "at the mark", q, 4, state{kept: one.kept}, 0)
	// One that is killed is no match.
	r, at, two := stateOf(t, "SEQ(A a, !B n) WITHIN 4", "step 1/1 A, 2/1 A, 3/1 A -> true")
	restores(t, "killed", r, at, state{append(two.kept, events("4/1 B")...), two.waiting, nil}, 4)
	restores(t, "killed", r, at, state{append(two.kept, events("4/1 B")...), nil, nil}, 0)
	restores(t, "killed", r, at, state{append(two.kept, events("6/1 B")...), two.waiting, nil}, 4)
	restores(t, "killed", r, at, state{append(two.kept, events("6/1 B")...), two.waiting[:1], nil}, 0)
	restores(t, "killed", r, at, state{append(two.kept, events("8/1 B")...), two.waiting, nil}, 0)
}

// Promise 15.8, condition 5: if an item leads, what ends at the mark or below it may be missing, and stays so; what ends above it may not.
func TestRestoreLeading(t *testing.T) {
	const lead, other = "SEQ(!B m, A a, C c, !B n) WITHIN 4 PARTITION BY k", "SEQ(A a, !B m, C c, !B n) WITHIN 4 PARTITION BY k"
	kept := events("2/1 A 7, 2/2 C 7, 2/3 A 8, 3/1 C 8, 5/0 C 8, 5/1 C 8, 6/1 C 7")
	m := func(decide int64, n string) api.Match {
		return api.Match{Decide: decide, Names: names(n), Lens: []int{1, 1}}
	}
	all := []api.Match{m(6, "2/1 2/2"), m(6, "2/1 6/1"), m(6, "2/3 3/1"), m(6, "2/3 5/0"), m(6, "2/3 5/1")}
	for i, c := range []struct {
		query   string
		mark    int64
		waiting []api.Match
		flaw    int
	}{
		{lead, 5, all, 0}, {other, 5, all, 0}, {lead, 5, nil, 5}, {lead, 5, all[1:2], 0}, {other, 5, all[1:2], 5}, {lead, 5, all[1:4], 0}, {lead, 5, all[2:], 5}, {other, 5, all[1:], 5},
		{lead, 4, all[1:2], 5}, {lead, 4, all[1:4], 5}, {lead, 4, slices.Concat(all[1:2], all[3:]), 0}, {lead, 4, slices.Concat(all[1:2], all[4:]), 5},
		{lead, 5, slices.Concat(all[1:2], all[:1]), 4}, {lead, 5, slices.Concat(all[1:2], all[1:2]), 4}, {lead, 5, []api.Match{m(6, "2/1 5/0"), all[1]}, 4},
	} {
		p := made(c.query)
		st := state{kept: kept, waiting: c.waiting}
		restores(t, c.query, p, c.mark, st, c.flaw)
		if c.flaw == 0 {
			x := reopen(t, c.query, p, c.mark, st)
			if got := x.s.Waiting(); !same(got, c.waiting) {
				t.Errorf("15.8: row %d: waiting %s", i, spell(got))
			}
			x.step(ev(6, 2, typeA, 7, 0))
			x.step(ev(6, 3, typeC, 8, 0))
			if got := x.s.Tick(6); len(got) != len(c.waiting)+1 {
				t.Errorf("15.8: row %d: told %s", i, spell(got))
			}
		}
	}
}

// Promise 15.9: what a leading negation has killed stays killed, though what killed it is no longer kept: of these marks just at the last two.
func TestRecoveryBehindALeadingNegation(t *testing.T) {
	const query = "SEQ(!B m, A a, C c, !B n) WITHIN 4 PARTITION BY k"
	for mark := int64(1); mark < 7; mark++ {
		x := script(t, query, "step 1/1 B 7, 3/1 A 7, 3/2 A 8, 4/1 C 7, 5/1 C 8 -> true")
		x.tick(mark)
		y := reopen(t, query, x.plan, mark, x.state())
		if of := len(y.want.all); of != 1+int(mark/5) {
			t.Errorf("at %d M has %d matches of what is kept", mark, of)
		}
		for _, z := range []*pair{x, y} {
			z.script("waiting -> 7 3/2,5/1", "step 7/1 C 7 -> true", "waiting -> 7 3/1,7/1; 7 3/2,5/1", "tick 7 -> 7 3/1,7/1; 7 3/2,5/1")
		}
	}
}

// What a used name passes over that a state begins with, up to when it drops out; with PAST as long as no match of its key has been told.
func TestResumedStates(t *testing.T) {
	kept := events("2/1 A 7, 3/1 A 7, 4/1 A 8, 4/2 A 8, 5/1 A 7")
	for _, c := range []struct {
		after, used string
		lines       []string
	}{
		{"NEXT", "3/1 4/1", []string{
			"tick 6 -> 6 2/1,6/1; 6 4/2,6/2; 6 5/1,6/1", "used -> 3/1 4/1 4/2 5/1",
			"step 7/1 A 7 -> true", "tick 7 -> 7 6/1,7/1", "used -> 4/1 4/2 5/1 6/1",
			"step 8/1 A 8 -> true", "tick 8 -> 8 6/2,8/1", "used -> 5/1 6/1 6/2"}},
		{"PAST", "4/1 5/1", []string{
			"tick 6 -> 6 4/2,6/2", "used -> 5/1 6/2",
			"step 7/1 A 7 -> true", "tick 7 -> 7 6/1,7/1", "used -> 6/2 7/1",
			"step 8/1 A 7, 8/2 A 7, 8/3 A 8, 8/4 A 8 -> true", "tick 8 -> 8 8/1,8/2; 8 8/3,8/4", "used -> 8/2 8/4"}},
		{"ONCE", "3/1 4/1 5/1", []string{
			"tick 6 -> 6 2/1,6/1; 6 4/2,6/2", "used -> 3/1 4/1 4/2 5/1 6/1 6/2",
			"step 7/1 A 7 -> true", "tick 7 ->", "used -> 4/1 4/2 5/1 6/1 6/2",
			"step 8/1 A 7, 8/2 A 7 -> true", "tick 8 -> 8 7/1,8/1", "used -> 5/1 6/1 6/2 7/1 8/1"}},
	} {
		p := made("SEQ(A a, A b) AFTER " + c.after + " WITHIN 4 PARTITION BY k")
		x := reopen(t, c.after, p, 5, state{kept: kept, used: names(c.used)})
		x.script("used -> "+c.used, "waiting ->", "step 6/1 A 7, 6/2 A 8 -> true", "used -> "+c.used)
		x.script(c.lines...)
		x.script("tick 12 ->", "used ->", "keys ->")
	}
}

// What waits behind a Restore is passed over, or is not, as what is completed later.
func TestResumedWaiting(t *testing.T) {
	kept := events("2/1 A 7, 3/1 A 7, 4/1 C 7, 5/1 C 7")
	var waiting []api.Match
	for _, n := range []string{"2/1 4/1", "2/1 5/1", "3/1 4/1", "3/1 5/1"} {
		l := names(n)
		waiting = append(waiting, api.Match{Decide: l[0].Ts + 4, Names: l, Lens: []int{1, 1}})
	}
	for _, c := range []struct{ after, used, want string }{
		{"ALL", "", "6 2/1,4/1; 6 2/1,5/1; 7 3/1,4/1; 7 3/1,5/1"},
		{"NEXT", "", "6 2/1,4/1; 7 3/1,4/1"}, {"NEXT", "2/1", "7 3/1,4/1"}, {"NEXT", "3/1 4/1", "6 2/1,4/1"}, {"NEXT", "2/1 3/1 5/1", ""},
		{"PAST", "", "6 2/1,4/1"}, {"PAST", "2/1", "7 3/1,4/1"}, {"PAST", "3/1", ""}, {"PAST", "5/1", ""},
		{"ONCE", "", "6 2/1,4/1; 7 3/1,5/1"}, {"ONCE", "4/1", "6 2/1,5/1"}, {"ONCE", "2/1", "7 3/1,4/1"}, {"ONCE", "2/1 4/1", "7 3/1,5/1"}, {"ONCE", "4/1 5/1", ""},
	} {
		p := made("SEQ(A a, C c, !B n) AFTER " + c.after + " WITHIN 4")
		st := state{kept: kept, waiting: waiting, used: names(c.used)}
		reopen(t, c.after+" "+c.used, p, 5, st).script("close -> " + c.want)
		x := reopen(t, c.after+" "+c.used, p, 5, st)
		x.script("step 6/1 B 7 -> true", "waiting ->", "used -> "+c.used, "tick 9 ->")
	}
}

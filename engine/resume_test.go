package engine_test

import (
	"fmt"
	"math"
	"slices"
	"strings"
	"testing"

	"sluice/api"
	"sluice/engine"
)

// resumes: is the state taken just as the document says, by the number of the first of the seven points that is not so, 0 for none?
func resumes(t *testing.T, where string, st api.State, flaw int) {
	t.Helper()
	if got := flawOf(st); got != flaw {
		t.Errorf("16.7: %s: %s: the document's point %d is not so, want %d", where, whole(st), got, flaw)
	}
	g, code := engine.Resume(st)
	if want := map[bool]api.Errno{true: api.OK, false: api.ErrState}[flaw == 0]; code != want || (g != nil) != (flaw == 0) {
		t.Fatalf("16.7: %s: Resume: %s: %v, %d, point %d", where, whole(st), g != nil, int(code), flaw)
	}
	if g != nil && whole(g.State()) != whole(st) {
		t.Errorf("16.7: %s: State:\n%s, want\n%s", where, whole(g.State()), whole(st))
	}
}

// The state of which the tests below spoil a point: at the mark 5, with the window 4, so that events are kept from 2 on.
const base = "PATTERN SEQ(A a, C c, !B n) AFTER PAST WITHIN 4 PARTITION BY k RETURN 1 / a.x, a.k"

func baseState(t *testing.T) api.State {
	t.Helper()
	x := open(t, base, 5)
	x.script("push 4/1 A 8 1, 2/1 C 7, 1/1 A 7 1, 3/1 C 7, 2/2 A 7 0 -> 0", "advance 3 ->", "push 5/1 C 8, 8/1 C 8, 7/1 D, 7/2 A 8 1 -> 0", "advance 5 -> 5 1/1,2/1 -> [{true 1} {true 7}]",
		"held -> 7/1 7/2 8/1", "kept -> 2/1 2/2 3/1 4/1 5/1", "used -> 2/1",
		"waiting -> 6 2/2,3/1 -> [{false 0} {true 7}]; 8 4/1,5/1 -> [{true 1} {true 8}]",
		"sizes -> 5 false 3 5 2 2",
	)
	return x.g.State()
}

// changed: the state with a change, its own memory.
func changed(st api.State, change func(*api.State)) api.State {
	st = copyOf(st)
	change(&st)
	return st
}

// Promise 16.7, point 1: schema, query and the query's text.
func TestResumeTexts(t *testing.T) {
	st := baseState(t)
	resumes(t, "as it is", st, 0)
	for i, change := range []func(*api.State){
		func(s *api.State) { s.Schema.Types = nil },
		func(s *api.State) { s.Schema.Types[3].Name = "A" },
		func(s *api.State) { s.Schema.Types[3].Name = "Seq" },
		func(s *api.State) { s.Schema.Types[3].Attrs = make([]string, 9) },
		func(s *api.State) { s.Schema.Types = make([]api.TypeDef, 17) },
		func(s *api.State) { s.Schema.Types[0].Attrs[1] = "z" },
		func(s *api.State) { s.Query = api.Query{} },
		func(s *api.State) { s.Query.Within = -1 },
		func(s *api.State) { s.Query.Within = api.MaxWindow + 1 },
		func(s *api.State) { s.Query.Mode = 3 },
		func(s *api.State) { s.Query.Mode = -1 },
		func(s *api.State) { s.Query.After = 4 },
		func(s *api.State) { s.Query.Items[0].Types = nil },
		func(s *api.State) { s.Query.Items[0].Var = "c" },
		func(s *api.State) { s.Query.Items[0].Hi = 5 },
		func(s *api.State) { s.Query.Items = slices.Repeat(s.Query.Items[:1], 11) },
		func(s *api.State) { s.Query.By = "x" },
		func(s *api.State) { s.Query.By = "k k" },
		func(s *api.State) { s.Query.Where = []api.Node{{}} },
		func(s *api.State) { s.Query.Where = []api.Node{{Op: api.OpNum, A: -1, B: -1}} },
		func(s *api.State) { s.Query.Ret = append(s.Query.Ret, nil) },
		func(s *api.State) { s.Query.Ret = slices.Repeat(s.Query.Ret, 5) },
		func(s *api.State) { s.Query.Where = nots(33) },
		func(s *api.State) { s.Query.Where = truths(500) },
	} {
		resumes(t, fmt.Sprint("change ", i), changed(st, change), 1)
	}
	// What is nested as deep, and has as many tokens, as a text may: WHERE and so many truths with AND between are twice as many tokens.
	many := (api.MaxTokens - len(strings.Fields(printed(st.Query)))) / 2
	resumes(t, "as many tokens", changed(st, func(s *api.State) { s.Query.Where = truths(many) }), 0)
	resumes(t, "too many tokens", changed(st, func(s *api.State) { s.Query.Where = truths(many + 1) }), 1)
	resumes(t, "32 times NOT", changed(st, func(s *api.State) { s.Query.Where = nots(32) }), 0)
}

// nots: so many times NOT, over TRUE or FALSE, so that it is true.
func nots(many int) []api.Node {
	out := []api.Node{{Op: []api.Op{api.OpTrue, api.OpFalse}[many%2], A: -1, B: -1}}
	for i := range many {
		out = append(out, api.Node{Op: api.OpNot, A: i, B: -1})
	}
	return out
}

// truths: so many times TRUE, with AND between.
func truths(many int) []api.Node {
	out := []api.Node{{Op: api.OpTrue, A: -1, B: -1}}
	for range many - 1 {
		at := len(out)
		out = append(out, api.Node{Op: api.OpTrue, A: -1, B: -1}, api.Node{Op: api.OpAnd, A: at - 1, B: at})
	}
	return out
}

// Promise 16.7, points 2 and 3: the capacity and the mark.
func TestResumeNumbers(t *testing.T) {
	st := baseState(t)
	for capacity, flaw := range map[int]int{math.MinInt: 2, -1: 2, 0: 2, 1: 5, 2: 5, 3: 0, 4: 0, 4096: 0, 4097: 2, math.MaxInt: 2} {
		resumes(t, fmt.Sprint("capacity ", capacity), changed(st, func(s *api.State) { s.Cap = capacity }), flaw)
	}
	bare := changed(st, func(s *api.State) { s.Held, s.Kept, s.Waiting, s.Used = nil, nil, nil, nil })
	for mark, flaw := range map[int64]int{
		math.MinInt64: 3, math.MinInt64 + 1: 3, api.NoMark - 1: 3, api.NoMark: 0, api.MinTs: 0, -1: 0, 0: 0, api.MaxTs - 1: 0, api.MaxTs: 0, api.MaxTs + 1: 3, math.MaxInt64 - 1: 3, math.MaxInt64: 3,
	} {
		resumes(t, fmt.Sprint("mark ", mark), changed(bare, func(s *api.State) { s.Mark = mark }), flaw)
		resumes(t, fmt.Sprint("closed, mark ", mark), changed(bare, func(s *api.State) { s.Mark, s.Closed = mark, true }), map[bool]int{true: flaw, false: 4}[flaw == 3 || mark == api.MaxTs])
	}
	for mark, flaw := range map[int64]int{api.NoMark: 6, 3: 6, 4: 6, 5: 0, 6: 6, 7: 5, 8: 5, api.MaxTs: 5} {
		resumes(t, fmt.Sprint("mark ", mark), changed(st, func(s *api.State) { s.Mark = mark }), flaw)
	}
}

// Promise 16.7, point 4: closed, nothing is left; and 16.8: such a one answers as what was flushed.
func TestResumeClosed(t *testing.T) {
	st := baseState(t)
	bare := changed(st, func(s *api.State) {
		s.Held, s.Kept, s.Waiting, s.Used, s.Closed, s.Mark = nil, nil, nil, nil, true, api.MaxTs
	})
	resumes(t, "closed", bare, 0)
	last := ev(api.MaxTs, 0, typeA, 7, 0)
	for i, change := range []func(*api.State){
		func(s *api.State) { s.Held = []api.Event{last} },
		func(s *api.State) { s.Kept = []api.Event{last} },
		func(s *api.State) { s.Kept, s.Used = []api.Event{last}, []api.Name{last.Name()} },
		func(s *api.State) { s.Used = []api.Name{last.Name()} },
		func(s *api.State) { s.Waiting = cloned(st.Waiting) },
		func(s *api.State) { s.Mark = api.MaxTs - 1 },
		func(s *api.State) { s.Mark = api.NoMark },
	} {
		resumes(t, fmt.Sprint("change ", i), changed(bare, change), 4)
	}
	open := changed(bare, func(s *api.State) { s.Closed, s.Kept = false, []api.Event{last} })
	resumes(t, "open", open, 0)
	reopen(t, "open", open).script("push 1152921504606846976/9 A -> 102", "advance 1152921504606846976 ->", "flush ->", "flush -> 101")
	x := reopen(t, "closed", bare)
	x.script("push 9/1 A -> 101", "advance 1152921504606846976 -> 101", "advance 1152921504606846977 -> 101", "flush -> 101", "sizes -> 1152921504606846976 true 0 0 0 0")
}

// Promise 16.7, point 5: the held events.
func TestResumeHeld(t *testing.T) {
	st := baseState(t)
	with := func(at int, e api.Event) api.State {
		return changed(st, func(s *api.State) { s.Held = slices.Insert(s.Held, at, e) })
	}
	for i, c := range []struct {
		st   api.State
		flaw int
	}{
		{with(0, ev(6, 0, typeA, 7, 0)), 0}, {with(0, ev(5, 9, typeA, 7, 0)), 5}, {with(0, ev(api.MinTs, 0, typeA, 7, 0)), 5}, {with(0, ev(math.MinInt64, 0, typeA, 7, 0)), 5},
		{with(0, ev(7, 1, typeA, 7, 0)), 5}, {with(1, ev(7, 1, typeA, 7, 0)), 5}, {with(1, ev(7, 2, typeD, 7, 0)), 5}, {with(3, ev(8, 1, typeC, 8, 0)), 5}, {with(3, ev(8, 0, typeC, 8, 0)), 5}, {with(3, ev(8, 2, typeD, 8, 0)), 0},
		{with(3, ev(api.MaxTs, 2, typeD, 8, 0)), 0}, {with(3, ev(api.MaxTs+1, 2, typeD, 8, 0)), 5}, {with(3, ev(math.MaxInt64, 2, typeD, 8, 0)), 5},
		{with(3, api.Event{Ts: 9, Type: 4}), 5}, {with(3, api.Event{Ts: 9, Type: -1}), 5}, {with(3, api.Event{Ts: 9, Type: typeC, Attrs: [8]int64{1, 1}}), 5}, {with(3, api.Event{Ts: 9, Attrs: [8]int64{7: 1}}), 5},
		{changed(st, func(s *api.State) { s.Held = nil }), 0},
		{changed(st, func(s *api.State) { slices.Reverse(s.Held) }), 5},
		{changed(st, func(s *api.State) { s.Held = append(s.Held, events("9/1 A, 9/2 A")...) }), 0},
		{changed(st, func(s *api.State) { s.Held = append(s.Held, events("9/1 A, 9/2 A, 9/3 A")...) }), 5},
		{changed(st, func(s *api.State) { s.Held[1].Type = 7 }), 5},
	} {
		resumes(t, fmt.Sprint("row ", i), c.st, c.flaw)
	}
}

// Promise 16.7, point 6: the kept events.
func TestResumeKept(t *testing.T) {
	st := baseState(t)
	with := func(at int, e api.Event) api.State {
		return changed(st, func(s *api.State) { s.Kept = slices.Insert(s.Kept, at, e) })
	}
	for i, c := range []struct {
		st   api.State
		flaw int
	}{
		{with(0, ev(2, 0, typeB, 7, 0)), 0}, {with(0, ev(1, 9, typeB, 7, 0)), 6}, {with(0, ev(api.MinTs, 0, typeB, 9, 0)), 6},
		{with(0, ev(2, 1, typeB, 9, 0)), 6}, {with(1, ev(2, 1, typeB, 9, 0)), 6}, {with(2, ev(3, 0, typeA, 9, 0)), 0}, {with(3, ev(3, 0, typeB, 9, 0)), 6},
		{with(5, ev(5, 2, typeB, 9, 0)), 0}, {with(5, ev(5, 0, typeB, 9, 0)), 6},
		{with(5, ev(6, 0, typeB, 9, 0)), 6}, {with(5, ev(6, 0, typeA, 9, 0)), 6}, {with(5, ev(9, 0, typeB, 9, 0)), 6}, {with(5, ev(api.MaxTs, 0, typeB, 9, 0)), 6}, {with(5, ev(math.MaxInt64, 0, typeB, 9, 0)), 6},
		{with(5, ev(5, 2, typeD, 0, 0)), 6}, {with(5, api.Event{Ts: 5, Id: 2, Type: -1}), 6}, {with(5, api.Event{Ts: 5, Id: 2, Type: 4}), 6}, {with(5, api.Event{Ts: 5, Id: 2, Type: typeC, Attrs: [8]int64{1, 1}}), 6},
		{changed(st, func(s *api.State) { s.Kept[0], s.Kept[1] = s.Kept[1], s.Kept[0] }), 6},
	} {
		resumes(t, fmt.Sprint("row ", i), c.st, c.flaw)
	}
	zero := open(t, "PATTERN SEQ(A a) WITHIN 0", 3).g.State() // without a window nothing is kept
	zero.Mark = 5
	for _, e := range events("4/0 A, 5/0 A, 6/0 A") {
		resumes(t, "no window", changed(zero, func(s *api.State) { s.Kept = []api.Event{e} }), 6)
	}
}

// Promise 16.7, point 7: the used names and the waiting matches.
func TestResumeUsedAndWaiting(t *testing.T) {
	st := baseState(t)
	for after, rows := range map[api.After]map[string]int{
		api.AfterAll:  {"": 0, "2/1": 7, "9/9": 7},
		api.AfterNext: {"": 0, "2/1": 0, "2/1 2/2": 0, "2/1 2/2 3/1 4/1 5/1": 0, "2/2 2/1": 7, "2/1 2/1": 7, "2/9": 7, "1/1": 7, "7/2": 7, "2/1 8/1": 7, "5/2": 7},
		api.AfterPast: {"": 0, "2/1": 0, "5/1": 0, "2/1 2/2": 7, "3/1 4/1": 0, "4/1 5/1": 7, "4/1 3/1": 7, "7/2": 7},
		api.AfterOnce: {"": 0, "2/1": 0, "3/1 4/1 5/1": 0, "3/1 2/2": 7, "4/1 4/1": 7, "8/1": 7},
	} {
		for used, flaw := range rows {
			other := changed(st, func(s *api.State) { s.Query.After, s.Used = after, names(used) })
			resumes(t, fmt.Sprintf("after %d, used %s", after, used), other, flaw)
			if flaw == 0 {
				x := reopen(t, fmt.Sprintf("after %d, used %s", after, used), other)
				x.push(ev(6, 1, typeC, 7, 0))
				for mark := int64(6); mark < 13; mark++ {
					x.advance(mark)
				}
				x.flush()
			}
		}
	}
	for i, change := range []func(l []api.Match) []api.Match{
		func(l []api.Match) []api.Match { return nil },
		func(l []api.Match) []api.Match { return l[:1] },
		func(l []api.Match) []api.Match { return l[1:] },
		func(l []api.Match) []api.Match { slices.Reverse(l); return l },
		func(l []api.Match) []api.Match { return append(l, l[1]) },
		func(l []api.Match) []api.Match { return append([]api.Match{{}}, l...) },
		func(l []api.Match) []api.Match { l[0].Decide++; return l },
		func(l []api.Match) []api.Match { l[0].Names[1] = api.Name{Ts: 4, Id: 1}; return l },
		func(l []api.Match) []api.Match { l[0].Names = l[0].Names[:1]; return l },
		func(l []api.Match) []api.Match { l[0].Lens = []int{2}; return l },
		func(l []api.Match) []api.Match { l[0].Vals[0].N = 7; return l }, // unknown as well, but written otherwise
		func(l []api.Match) []api.Match { l[0].Vals[0].Known = true; return l },
		func(l []api.Match) []api.Match { l[1].Vals[1].N++; return l },
		func(l []api.Match) []api.Match { l[1].Vals = nil; return l },
		func(l []api.Match) []api.Match { // of what is held
			return append(l, api.Match{Decide: 11, Names: names("7/2 8/1"), Lens: []int{1, 1}, Vals: l[1].Vals})
		},
	} {
		resumes(t, fmt.Sprint("change ", i), changed(st, func(s *api.State) { s.Waiting = change(s.Waiting) }), 7)
	}
}

// Promise 16.7, point 7: where an item leads, any of the matches of what is kept may be missing, and is told no more.
func TestResumeLeading(t *testing.T) {
	x := open(t, "PATTERN SEQ(!B m, A a, C c, !B n) WITHIN 4 PARTITION BY k", 9)
	x.script("push 2/1 A 7, 2/2 C 7, 2/3 A 8, 3/1 C 8, 4/1 C 8 -> 0", "advance 5 ->", "waiting -> 6 2/1,2/2; 6 2/3,3/1; 6 2/3,4/1")
	st := x.g.State()
	for mask := range 8 {
		some := changed(st, func(s *api.State) {
			s.Waiting = nil
			for i, m := range st.Waiting {
				if mask>>i&1 > 0 {
					s.Waiting = append(s.Waiting, m)
				}
			}
		})
		resumes(t, fmt.Sprint("of three ", mask), some, 0)
		y := reopen(t, fmt.Sprint("of three ", mask), some)
		y.script("push 6/1 C 7 -> 0")
		if got, _ := y.advance(6); len(got) != len(some.Waiting)+1 {
			t.Errorf("16.7: of three %d: told %s", mask, spell(got))
		}
		middle := changed(some, func(s *api.State) { s.Query.Items[0], s.Query.Items[1] = s.Query.Items[1], s.Query.Items[0] })
		resumes(t, fmt.Sprint("in the middle, of three ", mask), middle, map[bool]int{true: 0, false: 7}[mask == 7])
	}
}

// What is resumed goes on as the paragraph 'Resumed states' says: the held events come in, what waits is told if nothing kills it, and the used names pass over.
func TestResumedStates(t *testing.T) {
	st := baseState(t)
	reopen(t, base, st).script(
		"push 7/2 A, 8/1 B -> 103", "push 5/9 B 7 -> 102", "push 6/1 B 7 -> 0", "push 9/1 A 8 -> 0", "push 9/2 A -> 104",
		"advance 6 ->", // 6/1 has killed 2/2 3/1
		"waiting -> 8 4/1,5/1 -> [{true 1} {true 8}]", "used ->",
		"advance 8 -> 8 4/1,5/1 -> [{true 1} {true 8}]",
		"used -> 5/1", "waiting -> 11 7/2,8/1 -> [{true 1} {true 8}]", "kept -> 5/1 6/1 7/2 8/1",
		"flush -> 11 7/2,8/1 -> [{true 1} {true 8}]",
	)
	reopen(t, base, changed(st, func(s *api.State) { s.Used = names("2/2 4/1") })).script(
		"used -> 2/2 4/1", "waiting -> 6 2/2,3/1 -> [{false 0} {true 7}]; 8 4/1,5/1 -> [{true 1} {true 8}]",
		"advance 11 -> 11 7/2,8/1 -> [{true 1} {true 8}]", // the others begin with what is used
	)
}

// Promise 16.8: ahead of the first mark, at the first one, and behind the last one.
func TestRecoveryAtTheEnds(t *testing.T) {
	everyAfter("SEQ(A a, A b, !C n) WITHIN 4", func(text string) {
		x := open(t, text, 4)
		for _, line := range []string{"push 4/1 A, 2/1 A, 3/1 A -> 0", "advance -1152921504606846976 ->", "push 7/1 C -> 0", "advance 3 ->", "advance 4 ->", "push 1152921504606846976/1 A -> 0", "advance 1152921504606846975 -> 6 2/1,3/1; 6 2/1,4/1", "advance 1152921504606846976 ->", "flush ->"} {
			if x.want.query.After != api.AfterAll {
				line = strings.TrimSuffix(line, "; 6 2/1,4/1")
			}
			resumes(t, text, x.g.State(), 0)
			x.script(line)
			resumes(t, text, x.g.State(), 0)
			y := reopen(t, text, x.g.State())
			y.want = x.want // from its beginning on
			y.asked("resumed")
			x = y
		}
	})
}

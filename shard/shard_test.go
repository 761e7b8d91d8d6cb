package shard_test

import (
	"fmt"
	"math"
	"slices"
	"strconv"
	"strings"
	"testing"

	"sluice/api"
	"sluice/shard"
)

// script: what is told to new shards and asked of them, a line each: "step 1/1 A 7, 2/1 A 7 -> true", "tick 4 -> 4 1/1,4/1", "kept -> 1/1 2/1". Beside that each is held against the plain search.
func script(t *testing.T, query string, lines ...string) *pair {
	t.Helper()
	x := open(t, query, made(query))
	x.script(lines...)
	return x
}

func (x *pair) script(lines ...string) {
	x.t.Helper()
	for _, line := range lines {
		call, want, _ := strings.Cut(line, "->")
		word, rest, _ := strings.Cut(strings.TrimSpace(call), " ")
		want = strings.TrimSpace(want)
		if word == "step" {
			for _, e := range events(rest) {
				if got := fmt.Sprint(x.step(e)); got != want {
					x.t.Errorf("15.2: %s: %s: %d/%d: %s", x.where, line, e.Ts, e.Id, got)
				}
			}
			continue
		}
		if promise, got := x.answer(word, rest); got != want {
			x.t.Errorf("%s: %s: %s: %s", promise, x.where, line, got)
		}
	}
}

// answer of a script's word, and the promise that says it.
func (x *pair) answer(word, rest string) (promise, text string) {
	x.t.Helper()
	switch word {
	case "tick":
		mark, err := strconv.ParseInt(rest, 10, 64)
		if err != nil {
			x.t.Fatal(err)
		}
		return "15.3", spell(x.tick(mark))
	case "close":
		return "15.4", spell(x.close())
	case "keys":
		return "15.5", strings.Trim(fmt.Sprint(x.s.Keys()), "[]")
	case "kept":
		return "15.5", spellEvents(x.s.Kept())
	case "waiting":
		return "15.5", spell(x.s.Waiting())
	case "used":
		return "15.5", spellNames(x.s.Used())
	}
	x.t.Fatalf("no word: %s", word)
	return "", ""
}

// The chapter's first example.
func TestChapterPartitions(t *testing.T) {
	script(t, "SEQ(A a, !B n, C c) WITHIN 5 PARTITION BY k",
		"step 1/1 A 7 -> true",
		"step 1/1 A 7 -> false",
		"step 2/1 D 7 -> false",
		"step 2/2 A 8 -> true",
		"step 3/1 B 8, 4/1 C 7, 4/2 C 8 -> true",
		"waiting -> 4 1/1,4/1",
		"tick 3 ->",
		"keys -> 7 8",
		"kept -> 1/1 2/2 3/1 4/1 4/2",
		"tick 4 -> 4 1/1,4/1",
		"tick 2 ->",
		"tick 4 ->",
		"step 4/9 C 7 -> false",
		"step 5/1 C 7 -> true",
		"tick 6 -> 5 1/1,5/1",
		"kept -> 2/2 3/1 4/1 4/2 5/1",
		"keys -> 7 8",
		"tick 9 ->",
		"keys -> 7",
		"close ->",
		"kept ->",
		"step 20/1 A 7 -> false",
	)
}

// The chapter's second example, with each clause AFTER.
func TestChapterAfter(t *testing.T) {
	for _, c := range []struct{ after, told, used string }{
		{"", "2 1/1,2/1; 3 1/1,3/1; 3 2/1,3/1; 4 1/1,4/1; 4 2/1,4/1; 4 3/1,4/1", ""},
		{"AFTER ALL", "2 1/1,2/1; 3 1/1,3/1; 3 2/1,3/1; 4 1/1,4/1; 4 2/1,4/1; 4 3/1,4/1", ""},
		{"AFTER PAST", "2 1/1,2/1; 4 3/1,4/1", "4/1"},
		{"AFTER NEXT", "2 1/1,2/1; 3 2/1,3/1; 4 3/1,4/1", "1/1 2/1 3/1"},
		{"AFTER ONCE", "2 1/1,2/1; 4 3/1,4/1", "1/1 2/1 3/1 4/1"},
	} {
		script(t, "SEQ(A a, A b) "+c.after+" WITHIN 9",
			"step 1/1 A, 2/1 A, 3/1 A, 4/1 A -> true",
			"waiting -> 2 1/1,2/1; 3 1/1,3/1; 3 2/1,3/1; 4 1/1,4/1; 4 2/1,4/1; 4 3/1,4/1",
			"tick 4 -> "+c.told,
			"used -> "+c.used,
			"waiting ->",
		)
	}
}

// nothing: have they no keys, nothing kept, no used names and nothing that waits?
func nothing(t *testing.T, where string, s *shard.Shards) {
	t.Helper()
	if n := len(s.Keys()) + len(s.Kept()) + len(s.Used()) + len(s.Waiting()); n > 0 {
		t.Errorf("15.5: %s: keys %v, kept %s, used %s, waiting %s", where, s.Keys(), spellEvents(s.Kept()), spellNames(s.Used()), spell(s.Waiting()))
	}
}

// Promise 15.1: nothing is taken, and anything may be from the least timestamp on.
func TestNew(t *testing.T) {
	everyPlan(func(where string, p api.Plan) {
		s := shard.New(p)
		nothing(t, where, s)
		if l := s.Tick(api.NoMark); len(l) > 0 {
			t.Errorf("15.1: %s: %s", where, spell(l))
		}
		first := ev(api.MinTs, 0, typeA, 1, 1)
		if isOf := p.Used[typeA]; s.Step(first) != isOf {
			t.Errorf("15.1: %s: the first event: %v", where, !isOf)
		}
		s = shard.New(p)
		if l := s.Close(); len(l) > 0 {
			t.Errorf("15.1: %s: %s", where, spell(l))
		}
		nothing(t, where, s)
	})
}

// Promise 15.2: what is no event of the schema, and what is not of the stream.
func TestStepOfOthers(t *testing.T) {
	x := script(t, "SEQ(A a, !B n) WITHIN 5 PARTITION BY k", "step 1/1 A 7 -> true")
	for _, e := range []api.Event{
		{Ts: 2, Type: -1}, {Ts: 2, Type: 4}, {Ts: 2, Type: math.MaxInt}, {Ts: 2, Type: math.MinInt},
		{Ts: 2, Attrs: [api.MaxAttrs]int64{2: 1}}, {Ts: 2, Attrs: [api.MaxAttrs]int64{7: -1}}, {Ts: 2, Type: typeC, Attrs: [api.MaxAttrs]int64{1: 1}},
		{Ts: api.MaxTs + 1}, {Ts: math.MaxInt64}, {Ts: api.MinTs - 1}, {Ts: math.MinInt64},
		ev(2, 1, typeC, 7, 0), ev(2, 1, typeD, 0, 0),
	} {
		if x.step(e) {
			t.Errorf("15.2: %+v is taken", e)
		}
	}
	x.script("kept -> 1/1", "step 2/0 A 7, 2/1 B 7 -> true", "kept -> 1/1 2/0 2/1")
}

// Promise 15.2: what stands at the mark, below it and just above it, at the event that was taken last and before it, of the same key and of another one.
func TestStepInOrder(t *testing.T) {
	script(t, "SEQ(A a, A b) WITHIN 5 PARTITION BY k",
		"tick 10 ->",
		"step 10/9 A 7, 9/9 A 7, -3/1 A 7 -> false",
		"step 11/5 A 7 -> true",
		"step 11/5 A 7, 11/5 A 8, 11/4 A 8, 11/0 A 7, 10/9 A 7 -> false",
		"step 11/6 A 8 -> true",
		"step 11/6 A 7 -> false", // the last one of its own key is before it
		"step 11/18446744073709551615 A 7 -> true",
		"step 11/18446744073709551615 A 8 -> false",
		"step 12/0 A 8 -> true",
		"tick 11 -> 11 11/5,11/18446744073709551615",
		"step 12/0 A 7 -> false", // above the mark, but not behind what was taken
		"step 12/1 A 7 -> true",
		"tick 14 -> 12 11/5,12/1; 12 11/6,12/0; 12 11/18446744073709551615,12/1",
		"step 12/2 A 7, 14/0 A 7 -> false",
		"step 15/0 A 7 -> true",
		"kept -> 11/5 11/6 11/18446744073709551615 12/0 12/1 15/0",
	)
	// Behind an event that is no longer kept just the mark counts.
	script(t, "SEQ(A a) WITHIN 0",
		"step 5/5 A -> true", "tick 5 -> 5 5/5", "kept ->", "step 5/6 A, 5/4 A, 4/9 A -> false", "step 6/0 A -> true",
	)
}

// Promise 15.2, at the ends of the safe range.
func TestStepAtTheEnds(t *testing.T) {
	first, last, max := fmt.Sprint(api.MinTs, "/0"), fmt.Sprint(api.MaxTs, "/0"), fmt.Sprint(api.MaxTs)
	script(t, "SEQ(A a, A b) WITHIN 5",
		"step "+first+" A -> true",
		"tick "+fmt.Sprint(api.MinTs)+" ->",
		"step "+fmt.Sprint(api.MinTs, "/1")+" A -> false",
		"kept -> "+first,
		"tick "+fmt.Sprint(api.MaxTs-1)+" ->",
		"kept ->",
		"step "+last+" A -> true",
		"step "+fmt.Sprint(api.MaxTs, "/18446744073709551615")+" A -> true",
		"tick "+max+" -> "+max+" "+last+","+fmt.Sprint(api.MaxTs, "/18446744073709551615"),
		"kept -> "+last+" "+fmt.Sprint(api.MaxTs, "/18446744073709551615"),
	)
	for _, mark := range []int64{api.MaxTs, api.MaxTs + 1, math.MaxInt64} {
		x := script(t, "SEQ(A a, A b) WITHIN 5", "tick "+fmt.Sprint(mark)+" ->")
		x.script("step "+last+" A, "+first+" A -> false", "close ->")
	}
}

// Promise 15.3: marks at NoMark, below it, the same again, one that falls, above MaxTs, and the ends of int64.
func TestMarks(t *testing.T) {
	x := script(t, "SEQ(A a) WITHIN 2", "step 5/1 A, 6/1 A, 9/1 A -> true")
	for _, mark := range []int64{math.MinInt64, math.MinInt64 + 1, api.NoMark - 1, api.NoMark, api.MinTs, 0, api.NoMark, 4} {
		if l := x.tick(mark); len(l) > 0 {
			t.Errorf("15.3: Tick(%d): %s", mark, spell(l))
		}
	}
	x.script(
		"tick 5 -> 5 5/1", "tick 5 ->", "tick 4 ->", "tick -9 ->", "waiting -> 6 6/1; 9 9/1",
		"tick 8 -> 6 6/1", "kept -> 9/1", "tick 6 ->", "kept -> 9/1",
		"tick 1152921504606846977 -> 9 9/1", "keys ->", "tick 1152921504606846976 ->",
		"tick 9223372036854775807 ->", "tick 9223372036854775807 ->", "tick -9223372036854775808 ->", "step 1152921504606846976/1 A -> false",
		"close ->", "tick 9223372036854775807 ->", "close ->",
	)
}

// Promise 15.3: a match is told at a mark that is just its decision, and one below it not yet; a trailing one's may lie above MaxTs.
func TestDecisions(t *testing.T) {
	script(t, "SEQ(A a, C c) WITHIN 9",
		"step 3/1 A, 7/1 C -> true", "tick 6 ->", "waiting -> 7 3/1,7/1", "tick 7 -> 7 3/1,7/1", "waiting ->", "tick 8 ->", "close ->")
	script(t, "SEQ(A a, C c, !B n) WITHIN 9",
		"step 3/1 A, 7/1 C -> true", "tick 11 ->", "waiting -> 12 3/1,7/1", "tick 12 -> 12 3/1,7/1", "waiting ->", "kept -> 7/1")
	script(t, "SEQ(A a, C c, !B n) WITHIN 0", // all of it at one time
		"step 3/1 A, 3/2 C -> true", "waiting -> 3 3/1,3/2", "tick 3 -> 3 3/1,3/2", "kept ->")
	script(t, "SEQ(A a, !B n) WITHIN 1099511627776",
		"step 1152921504606846975/1 A, 1152921504606846976/1 A -> true",
		"tick 1152921504606846976 ->",
		"waiting -> 1152922604118474751 1152921504606846975/1; 1152922604118474752 1152921504606846976/1",
		"tick 1152922604118474750 ->",
		"tick 1152922604118474751 -> 1152922604118474751 1152921504606846975/1",
		"kept -> 1152921504606846976/1",
		"close -> 1152922604118474752 1152921504606846976/1",
	)
}

// Promise 15.4: what is left is told, in its order, once; closed shards take nothing and have nothing.
func TestClose(t *testing.T) {
	everyAfter("SEQ(A a, A b, !B n) WITHIN 4 PARTITION BY k", func(where string, p api.Plan) {
		x := open(t, where, p)
		x.script("step 1/1 A 2, 2/1 A 1, 2/2 A 2, 3/1 A 1, 4/1 A 1 -> true", "tick 3 ->", "close -> "+map[api.After]string{
			api.AfterAll:  "5 1/1,2/2; 6 2/1,3/1; 6 2/1,4/1; 7 3/1,4/1",
			api.AfterNext: "5 1/1,2/2; 6 2/1,3/1; 7 3/1,4/1",
			api.AfterPast: "5 1/1,2/2; 6 2/1,3/1",
			api.AfterOnce: "5 1/1,2/2; 6 2/1,3/1",
		}[p.Query.After])
		nothing(t, where, x.s)
		x.script("close ->", "tick 9 ->", "tick 1 ->", "step 5/1 A 1, 9/1 A 1, 1/1 B 1 -> false", "close ->")
		nothing(t, where, x.s)
	})
}

// Promise 15.5: keys that are negative, at the ends of int64, and equal; without PARTITION BY all events have the key 0.
func TestKeys(t *testing.T) {
	script(t, "SEQ(A a, !C n, B b) WITHIN 5 PARTITION BY k",
		"step 1/1 A 3, 1/2 A -9223372036854775808, 1/3 B 9223372036854775807, 2/1 C 0, 2/2 A -1, 2/3 A 3, 2/4 B -9223372036854775808 -> true",
		"keys -> -9223372036854775808 -1 0 3 9223372036854775807",
		"waiting -> 2 1/2,2/4",
		"tick 6 -> 2 1/2,2/4",
		"keys -> -9223372036854775808 -1 0 3",
		"tick 7 ->",
		"keys ->",
	)
	script(t, "SEQ(A a, !C n, B b) WITHIN 5",
		"step 1/1 A 3, 1/2 A -5 -> true", "keys -> 0", "step 2/1 B 9 -> true", "keys -> 0", "tick 6 -> 2 1/1,2/1; 2 1/2,2/1", "keys -> 0", "tick 7 ->", "keys ->")
}

// Promise 15.5: very many keys, each by itself; what they tell stands in one order.
func TestManyKeys(t *testing.T) {
	const many = 3000
	p := made("SEQ(A a, B b) AFTER ONCE WITHIN 9000 PARTITION BY k")
	s := shard.New(p)
	for i := range int64(many) {
		s.Step(ev(i, 0, typeA, i*7919%many-5, 0))
	}
	if got := len(s.Keys()); got != many || !slices.IsSorted(s.Keys()) || s.Keys()[0] != -5 {
		t.Errorf("15.5: %d keys", got)
	}
	for i := range int64(many) {
		s.Step(ev(many+i/3, uint64(i), typeB, i-5, 0))
	}
	var last api.Match
	for i, m := range s.Tick(2 * many) {
		if i > 0 && !last.Before(m) {
			t.Fatalf("15.3: %s ahead of %s", spell([]api.Match{last}), spell([]api.Match{m}))
		}
		last = m
	}
	if got := s.Used(); len(got) != 2*many || !slices.IsSortedFunc(got, func(a, b api.Name) int { return int(a.Ts - b.Ts) }) {
		t.Errorf("15.5: %d used names", len(got))
	}
	if s.Tick(9000 + many - 1); len(s.Keys()) != many || len(s.Kept()) != many {
		t.Errorf("15.5: %d keys, %d events", len(s.Keys()), len(s.Kept()))
	}
	if s.Tick(9000 + 2*many); len(s.Keys()) != 0 {
		t.Errorf("15.5: %d keys are left", len(s.Keys()))
	}
}

// Promise 15.5: a partition that keeps nothing is there no longer, and is as a new one when an event of its key comes again.
func TestPartitionsThatComeBack(t *testing.T) {
	everyAfter("SEQ(A a, A b) WITHIN 3 PARTITION BY k", func(where string, p api.Plan) {
		x := open(t, where, p)
		for round := range 4 {
			at := func(n int) string { return fmt.Sprint(20*round + n) }
			x.script(
				"step "+at(1)+"/1 A 5, "+at(1)+"/2 A 6, "+at(2)+"/1 A 5 -> true",
				"tick "+at(2)+" -> "+at(2)+" "+at(1)+"/1,"+at(2)+"/1",
				"keys -> 5 6",
				"tick "+at(4)+" ->",
				"keys -> 5",
				"kept -> "+at(2)+"/1",
				"step "+at(5)+"/1 A 6 -> true",
				"keys -> 5 6",
				"tick "+at(8)+" ->",
				"keys ->", "kept ->", "used ->", "waiting ->",
			)
		}
	})
}

// Promise 15.5: events are kept just above the mark less the window, those too that no component takes.
func TestKept(t *testing.T) {
	script(t, "SEQ(A a, !B n, C c) WHERE a.x = 1 AND n.x = 1 WITHIN 3",
		"step 1/1 A 0 1, 2/1 A 0 0, 3/1 B 0 0, 4/1 C, 4/2 B 0 1 -> true",
		"kept -> 1/1 2/1 3/1 4/1 4/2", // at no mark all are
		"tick -1152921504606846976 ->", "kept -> 1/1 2/1 3/1 4/1 4/2",
		"tick 3 ->", "kept -> 1/1 2/1 3/1 4/1 4/2",
		"tick 4 -> 4 1/1,4/1", "kept -> 2/1 3/1 4/1 4/2",
		"step 7/1 C -> true", "tick 5 ->", "kept -> 3/1 4/1 4/2 7/1",
		"tick 6 ->", "kept -> 4/1 4/2 7/1",
		"tick 9 ->", "kept -> 7/1", "tick 10 ->", "kept ->",
	)
}

// Promise 15.5: a trailing negation's event takes matches away as soon as it is taken, ahead of their decision, up to the decision, and not behind it; just those behind whose last event it stands, and of which the conditions are true.
func TestTrailing(t *testing.T) {
	script(t, "SEQ(A a, !B n) WITHIN 3 PARTITION BY k",
		"step 1/1 A 7, 1/2 A 8, 2/1 A 7 -> true",
		"waiting -> 4 1/1; 4 1/2; 5 2/1",
		"tick 3 ->",
		"step 4/1 B 8 -> true", // at its decision
		"waiting -> 4 1/1; 5 2/1",
		"step 5/1 B 7 -> true", // behind the one's decision, at the other one's
		"waiting -> 4 1/1",
		"tick 9 -> 4 1/1",
	)
	script(t, "SEQ(A a, C c, !B n) WHERE n.x = a.x WITHIN 9",
		"step 1/1 A 0 5, 2/1 B 0 5, 3/1 A 0 6, 4/1 C -> true",
		"waiting -> 10 1/1,4/1; 12 3/1,4/1", // 2/1 is not behind 4/1
		"step 5/1 B 0 7 -> true",
		"waiting -> 10 1/1,4/1; 12 3/1,4/1",
		"step 6/1 C, 7/1 B 0 5 -> true",
		"waiting -> 12 3/1,4/1; 12 3/1,6/1",
		"step 8/1 C -> true",
		"waiting -> 10 1/1,8/1; 12 3/1,4/1; 12 3/1,6/1; 12 3/1,8/1",
		"step 10/1 B 0 5, 13/1 B 0 6 -> true", // at the one's decision, behind the others'
		"tick 10 ->",
		"waiting -> 12 3/1,4/1; 12 3/1,6/1; 12 3/1,8/1",
		"close -> 12 3/1,4/1; 12 3/1,6/1; 12 3/1,8/1",
	)
	script(t, "SEQ(A a, !B n, !C m) WITHIN 3", // either of two
		"step 1/1 A, 2/1 A, 3/1 B, 4/1 A, 7/1 C, 8/1 A -> true", "waiting -> 11 8/1", "tick 10 ->", "tick 11 -> 11 8/1")
}

// A match that a trailing negation kills uses no names: the clause AFTER goes on as if it had not been.
func TestTrailingAndAfter(t *testing.T) {
	for _, after := range []string{"ALL", "NEXT", "PAST", "ONCE"} {
		script(t, "SEQ(A a, A b, !B n) AFTER "+after+" WHERE n.x = a.x WITHIN 4",
			"step 1/1 A 0 1, 2/1 A 0 2, 3/1 A 0 3, 4/1 B 0 1, 5/1 B 0 9 -> true",
			"tick 4 ->", "waiting -> 6 2/1,3/1", "tick 5 ->", "used ->", "close -> 6 2/1,3/1")
	}
}

// A negation that leads looks back from the last event by the window, a middle one between its neighbours; a mark in between changes nothing.
func TestLeadingAndMiddle(t *testing.T) {
	script(t, "SEQ(!B n, A a, C c) WITHIN 4 PARTITION BY k",
		"step 1/1 B 7, 2/1 A 7, 2/2 A 8, 4/1 C 8, 5/1 C 7 -> true",
		"waiting -> 4 2/2,4/1", // 1 is at least 5 - 4
		"tick 5 -> 4 2/2,4/1",
		"kept -> 2/1 2/2 4/1 5/1",
		"step 6/1 C 7 -> true",
		"tick 6 -> 6 2/1,6/1", // and below 6 - 4
	)
	script(t, "SEQ(A a, !B n, C c) WITHIN 4 PARTITION BY k",
		"step 1/1 A 7, 1/2 B 8, 2/1 A 7, 2/2 B 8 -> true",
		"tick 2 ->",
		"step 3/1 B 7 -> true",
		"tick 3 ->",
		"step 4/1 A 7, 4/2 C 7 -> true",
		"waiting -> 4 4/1,4/2",
		"tick 4 -> 4 4/1,4/2",
	)
}

// Promise 15.5: the used names drop out as the mark rises, and what is passed over waits until it is decided.
func TestUsedNamesDropOut(t *testing.T) {
	script(t, "SEQ(A a, A b) AFTER NEXT WITHIN 4",
		"step 1/1 A, 2/1 A, 3/1 A, 5/1 A -> true",
		"tick 2 -> 2 1/1,2/1", "used -> 1/1",
		"waiting -> 3 1/1,3/1; 3 2/1,3/1; 5 1/1,5/1; 5 2/1,5/1; 5 3/1,5/1",
		"tick 3 -> 3 2/1,3/1", "used -> 1/1 2/1", "waiting -> 5 1/1,5/1; 5 2/1,5/1; 5 3/1,5/1",
		"tick 4 ->", "used -> 1/1 2/1",
		"tick 5 -> 5 3/1,5/1", "used -> 2/1 3/1",
		"tick 6 ->", "used -> 3/1", "tick 7 ->", "used ->",
	)
	script(t, "SEQ(A a, A b) AFTER PAST WITHIN 4 PARTITION BY k",
		"step 1/1 A 7, 2/1 A 8, 3/1 A 7, 4/1 A 8, 4/2 A 7 -> true",
		"tick 3 -> 3 1/1,3/1", "used -> 3/1",
		"waiting -> 4 1/1,4/2; 4 2/1,4/1; 4 3/1,4/2",
		"tick 4 -> 4 2/1,4/1", "used -> 3/1 4/1", "waiting ->",
		"step 5/1 A 7 -> true", "waiting -> 5 1/1,5/1; 5 3/1,5/1; 5 4/2,5/1",
		"tick 5 -> 5 4/2,5/1", "used -> 4/1 5/1",
		"tick 8 ->", "used -> 5/1", "tick 9 ->", "used ->",
	)
	script(t, "SEQ(A a, A b) AFTER ONCE WITHIN 4",
		"step 1/1 A, 2/1 A, 3/1 A, 4/1 A -> true",
		"tick 3 -> 2 1/1,2/1", "used -> 1/1 2/1", "waiting -> 4 1/1,4/1; 4 2/1,4/1; 4 3/1,4/1",
		"tick 4 -> 4 3/1,4/1", "used -> 1/1 2/1 3/1 4/1",
		"tick 5 ->", "used -> 2/1 3/1 4/1", "tick 7 ->", "used -> 4/1", "tick 8 ->", "used ->",
	)
}

// One mark that is far ahead goes through the matches as many marks would: names that drop out at it have been used by then.
func TestUsedWithinOneMark(t *testing.T) {
	for after, want := range map[string]string{
		"NEXT": "2 1/1,2/1; 3 2/1,3/1; 11 10/1,11/1",
		"PAST": "2 1/1,2/1; 11 10/1,11/1",
		"ONCE": "2 1/1,2/1; 11 10/1,11/1",
	} {
		x := script(t, "SEQ(A a, A b) AFTER "+after+" WITHIN 4",
			"step 1/1 A, 2/1 A, 3/1 A, 10/1 A, 11/1 A -> true", "tick 9223372036854775807 -> "+want, "used ->", "keys ->")
		x.script("close ->")
	}
}

// The clause AFTER goes through each key by itself: what is used of one key counts for no other one.
func TestAfterByKey(t *testing.T) {
	for after, want := range map[string]string{
		"NEXT": "3 1/1,3/1; 3 2/1,3/2; 4 3/1,4/1; 4 3/2,4/2",
		"PAST": "3 1/1,3/1; 3 2/1,3/2",
		"ONCE": "3 1/1,3/1; 3 2/1,3/2",
	} {
		script(t, "SEQ(A a, A b) AFTER "+after+" WITHIN 9 PARTITION BY k",
			"step 1/1 A 7, 2/1 A 8, 3/1 A 7, 3/2 A 8, 4/1 A 7, 4/2 A 8 -> true",
			"tick 4 -> "+want)
	}
}

// Results are told as they are, unknown ones too.
func TestResults(t *testing.T) {
	x := script(t, "SEQ(A+ a, B b) WITHIN 9 PARTITION BY k RETURN SUM(a.x), b.x / COUNT(a), 1 / b.x", "step 1/1 A 7 3, 2/1 A 7 4, 3/1 B 7 0 -> true")
	want := "3 1/1,2/1,3/1 [2 1] -> [{true 7} {true 0} {false 0}]; 3 1/1,3/1 -> [{true 3} {true 0} {false 0}]; 3 2/1,3/1 -> [{true 4} {true 0} {false 0}]"
	x.script("waiting -> "+want, "tick 3 -> "+want)
}

// What the tests write and read themselves.
func TestTexts(t *testing.T) {
	got := fmt.Sprint(events("1/2 A 7 3, -4/5 B 8"))
	if want := fmt.Sprint([]api.Event{{Ts: 1, Id: 2, Attrs: [8]int64{3, 7}}, {Ts: -4, Id: 5, Type: 1, Attrs: [8]int64{8}}}); got != want {
		t.Errorf("%s, want %s", got, want)
	}
	m := api.Match{Decide: 5, Names: names("1/1 2/18446744073709551615"), Lens: []int{2}, Vals: []api.Val{{Known: true, N: 3}}}
	if got := spell([]api.Match{m, m}); got != "5 1/1,2/18446744073709551615 [2] -> [{true 3}]; 5 1/1,2/18446744073709551615 [2] -> [{true 3}]" {
		t.Error(got)
	}
	if same([]api.Match{m}, []api.Match{{Decide: 5, Names: m.Names, Lens: m.Lens}}) || !same([]api.Match{m}, cloned([]api.Match{m})) {
		t.Error("results count")
	}
}

package engine_test

import (
	"fmt"
	"math"
	"strconv"
	"strings"
	"testing"

	"sluice/api"
	"sluice/engine"
)

// script: what is told to a new engine and asked of it, a line each: "push 1/1 A 7, 2/1 A 7 -> 0", the code; "advance 4 -> 4 1/1,4/1", what is told, or "advance 3 -> 105", the code of a refusal. Beside that each is held against the plain search.
func script(t *testing.T, query string, capacity int, lines ...string) *pair {
	t.Helper()
	x := open(t, "PATTERN "+query, capacity)
	x.script(lines...)
	return x
}

func (x *pair) script(lines ...string) {
	x.t.Helper()
	for _, line := range lines {
		call, want, _ := strings.Cut(line, "->")
		word, rest, _ := strings.Cut(strings.TrimSpace(call), " ")
		want = strings.TrimSpace(want)
		if word == "push" {
			for _, e := range events(rest) {
				if got := strconv.Itoa(int(x.push(e))); got != want {
					x.t.Errorf("16.2: %s: %s: %d/%d: %s", x.where, line, e.Ts, e.Id, got)
				}
			}
			continue
		}
		if promise, got := x.answer(word, rest); got != want {
			x.t.Errorf("%s: %s: %s: %s", promise, x.where, line, got)
		}
	}
}

// answer of a script's word, and the promise that says it.
func (x *pair) answer(word, rest string) (promise, text string) {
	x.t.Helper()
	st := x.g.State()
	switch word {
	case "advance":
		mark, err := strconv.ParseInt(rest, 10, 64)
		if err != nil {
			x.t.Fatal(err)
		}
		return "16.3", told(x.advance(mark))
	case "flush":
		return "16.4", told(x.flush())
	case "sizes":
		return "16.5", strings.Trim(fmt.Sprint(x.g.Sizes()), "{}")
	case "held":
		return "16.6", spellEvents(st.Held)
	case "kept":
		return "16.6", spellEvents(st.Kept)
	case "waiting":
		return "16.6", spell(st.Waiting)
	case "used":
		return "16.6", spellNames(st.Used)
	}
	x.t.Fatalf("no word: %s", word)
	return "", ""
}

// told: the matches, or the code of a refusal.
func told(l []api.Match, code api.Errno) string {
	if code != api.OK {
		return strconv.Itoa(int(code)) + spell(l)
	}
	return spell(l)
}

// The chapter's example, over its own schema.
func TestChapterExample(t *testing.T) {
	g, f := engine.Open("type A(k) type B(k)", "PATTERN SEQ(A a, !B n) WITHIN 10 PARTITION BY k", 100)
	if g == nil || f != (api.Fault{}) {
		t.Fatalf("16.1: %+v", f)
	}
	is := func(what, got, want string) {
		t.Helper()
		if got != want {
			t.Errorf("16: %s: %s, want %s", what, got, want)
		}
	}
	push := func(ts int64, id uint64, typ int, k int64, want api.Errno) {
		t.Helper()
		is("Push", fmt.Sprint(g.Push(api.Event{Ts: ts, Id: id, Type: typ, Attrs: [8]int64{k}})), fmt.Sprint(want))
	}
	sizes := func(want api.Sizes) {
		t.Helper()
		is("Sizes", fmt.Sprint(g.Sizes()), fmt.Sprint(want))
	}
	push(5, 1, 0, 7, api.OK)
	push(6, 2, 0, 8, api.OK)
	push(9, 3, 1, 8, api.OK)
	sizes(api.Sizes{Mark: api.NoMark, Held: 3})
	is("Advance", told(g.Advance(8)), "")
	sizes(api.Sizes{Mark: 8, Held: 1, Kept: 2, Waiting: 2, Parts: 2})
	push(8, 9, 0, 7, api.ErrLate)
	push(9, 3, 0, 7, api.ErrTwice)
	push(10, 3, 2, 7, api.ErrType)
	st := g.State()
	is("State", fmt.Sprintf("%d %d %v; %s; %s; %s; %v", st.Cap, st.Mark, st.Closed, spellEvents(st.Held), spellEvents(st.Kept), spell(st.Waiting), st.Used), "100 8 false; 9/3; 5/1 6/2; 15 5/1; 16 6/2; []")
	is("State", fmt.Sprintf("%v %v %d %s", st.Schema, st.Query.Items, st.Query.Within, st.Query.By), "{[{A [k]} {B [k]}]} [{false [A] a 1 1} {true [B] n 1 1}] 10 k")
	is("Advance", told(g.Advance(14)), "")
	sizes(api.Sizes{Mark: 14, Kept: 3, Waiting: 1, Parts: 2})
	is("Advance", told(g.Advance(15)), "15 5/1")
	is("Advance", told(g.Advance(14)), "105")
	is("Advance", told(g.Advance(api.MaxTs+1)), "106")
	is("Flush", told(g.Flush()), "")
	is("Flush", told(g.Flush()), "101")
	push(99, 1, 0, 7, api.ErrClosed)
	sizes(api.Sizes{Mark: api.MaxTs, Closed: true})
}

// Promise 16.1: the first fault counts, at its place.
func TestFaults(t *testing.T) {
	const good = "PATTERN SEQ(A a) WITHIN 1"
	deep := "PATTERN SEQ(A a) WHERE " + strings.Repeat("NOT ", 33) + "TRUE WITHIN 1"
	for _, c := range []struct {
		schema, query string
		capacity      int
		want          api.Fault
	}{
		{"type A(k", "", 0, api.Fault{Where: 1, Code: api.ErrSchemaWord, At: 8}},
		{"", good, 1, api.Fault{Where: 1, Code: api.ErrSchemaTypes}},
		{" # none", good, 0, api.Fault{Where: 1, Code: api.ErrSchemaTypes, At: 7}},
		{"type A(k) type A(k)", good, 1, api.Fault{Where: 1, Code: api.ErrSchemaTwice, At: 15}},
		{"type Seq(k)", good, 1, api.Fault{Where: 1, Code: api.ErrSchemaName, At: 5}},
		{"type A(ts)", good, 1, api.Fault{Where: 1, Code: api.ErrSchemaName, At: 7}},
		{strings.Repeat(" ", 4097), good, 1, api.Fault{Where: 1, Code: api.ErrSchemaLong, At: 4096}},
		{"type A(k)", "", 1, api.Fault{Where: 2, Code: api.ErrWord}},
		{"type A(k)", "PATTERN SEQ(A a WITHIN 1", 1, api.Fault{Where: 2, Code: api.ErrWord, At: 16}},
		{"type A(k)", "PATTERN SEQ(B b) &", 0, api.Fault{Where: 2, Code: api.ErrByte, At: 17}},
		{"type A(k)", "PATTERN SEQ(B b) WITHIN", 0, api.Fault{Where: 2, Code: api.ErrWord, At: 23}},
		{"type A(k)", deep, 1, api.Fault{Where: 2, Code: api.ErrDeep, At: 23 + 32*4}},
		{"type A(k)", strings.Repeat(" ", 8193), 1, api.Fault{Where: 2, Code: api.ErrLong, At: 8192}},
		{"type A(k)", "PATTERN SEQ(A a, B b) WITHIN 1", 0, api.Fault{Where: 2, Code: api.ErrNoType, At: 17}},
		{"type A(k)", "PATTERN SEQ(A a) WHERE a.k = 1 AND a.z = 2 WITHIN 1", 9, api.Fault{Where: 2, Code: api.ErrNoAttr, At: 35}},
		{"type A(k)", "PATTERN SEQ(A a) WITHIN 1099511627777", 0, api.Fault{Where: 2, Code: api.ErrWithin, At: 24}},
		{"type A(k)", "PATTERN SEQ(A a) WITHIN 1 PARTITION BY z", 9, api.Fault{Where: 2, Code: api.ErrPart, At: 39}},
		{"type A(k)", "PATTERN SEQ(A+ a) WITHIN 1 RETURN 1, a.k", 0, api.Fault{Where: 2, Code: api.ErrUse, At: 37}},
		{"type A(k)", good, 0, api.Fault{Where: 3, Code: api.ErrCap}},
		{"type A(k)", good, -1, api.Fault{Where: 3, Code: api.ErrCap}},
		{"type A(k)", good, math.MinInt, api.Fault{Where: 3, Code: api.ErrCap}},
		{"type A(k)", good, 4097, api.Fault{Where: 3, Code: api.ErrCap}},
		{"type A(k)", good, math.MaxInt, api.Fault{Where: 3, Code: api.ErrCap}},
	} {
		if g, f := engine.Open(c.schema, c.query, c.capacity); g != nil || f != c.want {
			t.Errorf("16.1: Open(%.50q, %.50q, %d): %v, %+v, want %+v", c.schema, c.query, c.capacity, g, f, c.want)
		}
	}
}

// Promise 16.1: a new engine holds, keeps and has told nothing, and takes an event of the least timestamp.
func TestOpen(t *testing.T) {
	for _, capacity := range []int{1, 2, 4095, 4096} {
		everyQuery(func(text string) {
			if capacity > 1 && len(text)%5 > 0 {
				return
			}
			x := open(t, text, capacity)
			if got := x.g.Sizes(); got != (api.Sizes{Mark: api.NoMark}) {
				t.Errorf("16.1: %s: %+v", text, got)
			}
			x.script("push -1152921504606846976/0 A -> 0", "advance -1152921504606846977 -> 106")
			x.flush()
		})
	}
}

// Promise 16.2: the reasons of a refusal, each ahead of those behind it.
func TestPushRefuses(t *testing.T) {
	odd := func(e api.Event) api.Event { e.Attrs[7] = 1; return e }
	typeless := func(e api.Event) api.Event { e.Type = 4; return e }
	x := script(t, "SEQ(A a, !B n) WITHIN 10 PARTITION BY k", 2, "advance 5 ->", "push 7/1 A 7, 9/1 D -> 0", "held -> 7/1 9/1")
	is := func(e api.Event, want api.Errno) {
		t.Helper()
		if got := x.push(e); got != want {
			t.Errorf("16.2: Push(%+v): %d, want %d", e, int(got), int(want))
		}
	}
	for _, ts := range []int64{math.MinInt64, api.NoMark, 5, 6, 7, api.MaxTs + 1, math.MaxInt64} {
		is(typeless(odd(ev(ts, 1, typeC, 7, 0))), api.ErrType)
		is(odd(ev(ts, 1, typeC, 7, 0)), api.ErrAttrs)
	}
	is(api.Event{Ts: 7, Id: 1, Type: -1}, api.ErrType)
	is(api.Event{Ts: 7, Id: 1, Type: math.MinInt}, api.ErrType)
	is(api.Event{Ts: 7, Id: 1, Type: math.MaxInt}, api.ErrType)
	is(api.Event{Ts: 7, Id: 1, Type: typeC, Attrs: [8]int64{1, 1}}, api.ErrAttrs)
	is(api.Event{Ts: 7, Id: 1, Type: typeC, Attrs: [8]int64{math.MinInt64}}, api.ErrTwice)
	for _, ts := range []int64{math.MinInt64, api.NoMark, api.MaxTs + 1, math.MaxInt64} {
		is(ev(ts, 1, typeA, 7, 0), api.ErrRange)
	}
	for _, ts := range []int64{api.MinTs, 0, 4, 5} {
		is(ev(ts, 1, typeA, 7, 0), api.ErrLate)
	}
	is(ev(7, 1, typeA, 7, 0), api.ErrTwice)
	is(ev(7, 1, typeB, 9, 9), api.ErrTwice) // whatever else is in it
	is(ev(9, 1, typeA, 7, 0), api.ErrTwice) // of one that stands in no item too
	is(ev(7, 2, typeA, 7, 0), api.ErrFull)
	is(ev(7, 0, typeD, 0, 0), api.ErrFull)
	is(ev(api.MaxTs, 0, typeA, 7, 0), api.ErrFull)
	x.script("advance 7 ->", "push 7/1 A 7, 7/2 A 7 -> 102", "push 9/1 A 7 -> 103", "push 8/1 A 7 -> 0", "push 8/2 A 7 -> 104", "push 8/1 B 7 -> 103",
		"flush -> 17 7/1; 18 8/1")
	for _, e := range []api.Event{typeless(odd(ev(7, 1, typeA, 0, 0))), odd(ev(7, 1, typeA, 0, 0)), ev(api.MaxTs+1, 0, typeA, 0, 0), ev(api.MaxTs, 0, typeA, 0, 0), ev(7, 1, typeA, 0, 0), ev(99, 0, typeA, 7, 0)} {
		is(e, api.ErrClosed)
	}
}

// Promise 16.2: what stands in no item is held as all others are, fills the capacity, and is let through and never seen again.
func TestEventsOfNoItem(t *testing.T) {
	script(t, "SEQ(A a, B b) USING STRICT WITHIN 9", 3,
		"push 1/1 A, 3/1 B, 2/1 D -> 0", "push 2/2 C -> 104", "sizes -> -1152921504606846977 false 3 0 0 0",
		"held -> 1/1 2/1 3/1",
		"advance 2 ->", "held -> 3/1", "kept -> 1/1", "push 2/1 D, 2/2 D -> 102",
		"push 4/1 C, 5/1 D -> 0", "push 4/1 D -> 103", "push 6/1 A -> 104",
		"advance 3 -> 3 1/1,3/1", "kept -> 1/1 3/1", "advance 5 ->", "sizes -> 5 false 0 2 0 1", "flush ->",
	)
	script(t, "SEQ(D d) WITHIN 0 RETURN d.x", 1, "push 1/1 A -> 0", "push 1/1 D -> 103", "push 1/2 D -> 104", "advance 1 ->", "push 2/1 D 0 5 -> 0", "advance 9 -> 2 2/1 -> [{true 5}]")
}

// Promise 16.2: the ids' ends, and events at the ends of the safe range.
func TestNames(t *testing.T) {
	script(t, "SEQ(A a, A b) WITHIN 1", 9,
		"push 5/18446744073709551615 A, 5/0 A, 5/9 A -> 0", "push 5/0 A, 5/18446744073709551615 B -> 103",
		"advance 4 ->", "push 4/0 A, 4/18446744073709551615 A -> 102",
		"advance 5 -> 5 5/0,5/9; 5 5/0,5/18446744073709551615; 5 5/9,5/18446744073709551615",
		"push 5/1 A -> 102", "push 6/0 A, 1152921504606846976/1 A, 1152921504606846976/0 A -> 0", "push 1152921504606846977/0 A -> 29",
		"advance 1152921504606846976 -> 6 5/0,6/0; 6 5/9,6/0; 6 5/18446744073709551615,6/0; 1152921504606846976 1152921504606846976/0,1152921504606846976/1",
		"kept -> 1152921504606846976/0 1152921504606846976/1",
		"push 1152921504606846976/2 A -> 102", "flush ->",
	)
}

// Promise 16.3: marks outside the safe range, that fall, that stay, and closed.
func TestAdvanceRefuses(t *testing.T) {
	x := script(t, "SEQ(A a) WITHIN 2", 9, "push 5/1 A, 6/1 A, 9/1 A -> 0")
	outside := []int64{math.MinInt64, math.MinInt64 + 1, api.NoMark - 1, api.NoMark, api.MaxTs + 1, math.MaxInt64}
	refused := func(marks []int64, want api.Errno) {
		t.Helper()
		for _, mark := range marks {
			if l, code := x.advance(mark); len(l) > 0 || code != want {
				t.Errorf("16.3: Advance(%d): %s, %d, want %d", mark, spell(l), int(code), int(want))
			}
		}
	}
	refused(outside, api.ErrMark)
	x.script("advance -1152921504606846976 ->", "advance -1152921504606846976 ->", "advance 4 ->")
	refused(outside, api.ErrMark)
	refused([]int64{api.MinTs, -1, 0, 3}, api.ErrBack)
	x.script("advance 5 -> 5 5/1", "advance 5 ->", "advance 8 -> 6 6/1")
	refused([]int64{api.MinTs, 5, 7}, api.ErrBack)
	x.script("waiting ->", "held -> 9/1", "advance 1152921504606846976 -> 9 9/1", "advance 1152921504606846976 ->")
	refused([]int64{api.MinTs, 5, api.MaxTs - 1}, api.ErrBack)
	refused(outside, api.ErrMark)
	x.script("flush ->")
	refused(append(outside, api.MinTs, 0, api.MaxTs), api.ErrClosed)
	x.script("flush -> 101")
}

// Promise 16.3: a match is told at the mark that is just its decision; what is held still counts for nothing.
func TestDecisions(t *testing.T) {
	script(t, "SEQ(A a, C c) WITHIN 9", 9, "push 7/1 C, 3/1 A -> 0", "advance 6 ->", "waiting ->", "advance 7 -> 7 3/1,7/1", "flush ->")
	script(t, "SEQ(A a, C c, !B n) WITHIN 9", 9, "push 7/1 C, 3/1 A, 13/1 B -> 0", "advance 11 ->", "waiting -> 12 3/1,7/1", "advance 12 -> 12 3/1,7/1", "flush ->")
	script(t, "SEQ(A a, C c, !B n) WITHIN 9", 9, "push 12/1 B, 7/1 C, 3/1 A -> 0", "advance 11 ->", "waiting -> 12 3/1,7/1", "advance 12 ->", "flush ->")
	script(t, "SEQ(A a, C c, !B n) WITHIN 9", 9, "push 3/1 A, 7/1 C -> 0", "advance 11 ->", "push 12/1 B -> 0", "waiting -> 12 3/1,7/1", "flush ->")
}

// Promise 16.4: what is left is told, the trailing ones too whose decision lies above MaxTs; then there is nothing more.
func TestFlush(t *testing.T) {
	everyAfter("SEQ(A a, A b, !B n) WITHIN 4 PARTITION BY k", func(text string) {
		x := open(t, text, 9)
		x.script("push 4/1 A 1, 2/2 A 2, 1/1 A 2, 2/1 A 1, 3/1 A 1 -> 0", "advance 3 ->", "push 6/1 A 3 -> 0", "flush -> "+map[api.After]string{
			api.AfterAll:  "5 1/1,2/2; 6 2/1,3/1; 6 2/1,4/1; 7 3/1,4/1",
			api.AfterNext: "5 1/1,2/2; 6 2/1,3/1; 7 3/1,4/1",
			api.AfterPast: "5 1/1,2/2; 6 2/1,3/1",
			api.AfterOnce: "5 1/1,2/2; 6 2/1,3/1",
		}[x.want.query.After],
			"sizes -> 1152921504606846976 true 0 0 0 0", "held ->", "kept ->", "waiting ->", "used ->", "flush -> 101", "push 5/1 A 1 -> 101", "advance 9 -> 101")
	})
	script(t, "SEQ(A a, !B n) WITHIN 1099511627776", 9, "push 1152921504606846976/1 A, 3/1 A -> 0", "advance 1152921504606846976 -> 1099511627779 3/1",
		"waiting -> 1152922604118474752 1152921504606846976/1", "flush -> 1152922604118474752 1152921504606846976/1")
	script(t, "SEQ(A a) WITHIN 1", 9, "flush ->", "flush -> 101", "sizes -> 1152921504606846976 true 0 0 0 0")
}

// Promise 16.5: what is held, kept and waits, and how many keys the kept events have, mark by mark.
func TestSizes(t *testing.T) {
	x := script(t, "SEQ(A a, !B n, C c, !B m) AFTER ONCE WITHIN 3 PARTITION BY k", 99,
		"push 1/1 A 7, 1/2 A 8, 2/1 B 8, 3/1 C 7, 3/2 C 8, 4/1 B 7, 5/1 A 9, 5/2 D, 6/1 C 9 -> 0",
		"sizes -> -1152921504606846977 false 9 0 0 0",
		"advance 0 ->", "sizes -> 0 false 9 0 0 0",
		"advance 1 ->", "sizes -> 1 false 7 2 0 2",
		"advance 2 ->", "sizes -> 2 false 6 3 0 2",
		"advance 3 ->", "sizes -> 3 false 4 5 1 2", "waiting -> 4 1/1,3/1",
		"advance 4 ->", "sizes -> 4 false 3 4 0 2", "kept -> 2/1 3/1 3/2 4/1",
		"advance 5 ->", "sizes -> 5 false 1 4 0 3", "kept -> 3/1 3/2 4/1 5/1",
		"advance 6 ->", "sizes -> 6 false 0 3 1 2", "waiting -> 8 5/1,6/1",
		"advance 7 ->", "sizes -> 7 false 0 2 1 1",
		"advance 8 -> 8 5/1,6/1", "sizes -> 8 false 0 1 0 1", "used -> 6/1",
		"advance 9 ->", "sizes -> 9 false 0 0 0 0", "used ->",
	)
	x.script("flush ->", "sizes -> 1152921504606846976 true 0 0 0 0")
}

// Promise 16.5: what the clause AFTER will pass over waits too, and is counted.
func TestWaitingBeforeAfter(t *testing.T) {
	for after, want := range map[string]string{"ALL": "5 1/1,2/1; 5 1/1,3/1; 6 2/1,3/1", "NEXT": "5 1/1,2/1; 6 2/1,3/1", "PAST": "5 1/1,2/1", "ONCE": "5 1/1,2/1"} {
		script(t, "SEQ(A a, A b, !B n) AFTER "+after+" WITHIN 4", 9, "push 1/1 A, 2/1 A, 3/1 A -> 0", "advance 3 ->", "sizes -> 3 false 0 3 3 1", "waiting -> 5 1/1,2/1; 5 1/1,3/1; 6 2/1,3/1", "used ->", "flush -> "+want)
	}
}

// The document's examples, by their numbers, over the schema of the document, in the order in which they stand there and backwards.
func TestExamples(t *testing.T) {
	const three = "1/1 0 0 0, 2/2 0 0 0, 3/3 0 0 0"
	const five = "SEQ(Order o, !Cancel c, Ship s) WHERE o.acct = s.acct AND c.acct = o.acct WITHIN 50 PARTITION BY acct"
	const six = "SEQ(Order o, !Ship s) WHERE s.acct = o.acct WITHIN 10"
	const eight = "SEQ(Order+ a, Ship s) WHERE a.qty > PREV(a.qty) AND SUM(a.qty) = s.qty WITHIN 100 RETURN COUNT(a), FIRST(a.qty)"
	for _, c := range []struct{ query, events, want string }{
		{"SEQ(Order o, Ship s) WHERE o.acct = s.acct WITHIN 10", "15/2 2 7 3, 10/1 0 7 3, 12/3 0 8 1", "15 10/1,15/2"},       // 1
		{"SEQ(Order o, Ship s) WHERE o.acct = s.acct WITHIN 10", "10/1 0 7 3, 21/2 2 7 3", ""},                               // 2
		{"SEQ(Order o, Ship s) WHERE o.acct = s.acct WITHIN 10", "10/1 0 7 3, 20/2 2 7 3", "20 10/1,20/2"},                   // 2
		{"SEQ(Order a, Order b) WITHIN 100", three, "2 1/1,2/2; 3 1/1,3/3; 3 2/2,3/3"},                                       // 3
		{"SEQ(Order a, Order b) USING NEXT WITHIN 100", three, "2 1/1,2/2; 3 2/2,3/3"},                                       // 3
		{"SEQ(Order a, Order b) USING STRICT WITHIN 100", three, "2 1/1,2/2; 3 2/2,3/3"},                                     // 3
		{"SEQ(Order a, Ship b) USING STRICT WITHIN 100", "1/1 0 0 0, 2/2 0 0 0, 2/9 1 0 0, 3/3 2 0 0", "3 2/2,3/3"},          // 4
		{"SEQ(Order a, Ship b) USING NEXT WITHIN 100", "1/1 0 0 0, 2/2 0 0 0, 2/9 1 0 0, 3/3 2 0 0", "3 1/1,3/3; 3 2/2,3/3"}, // 4
		{five, "1/1 0 7 0, 2/2 1 8 0, 3/3 2 7 0", "3 1/1,3/3"},                                                               // 5
		{five, "1/1 0 7 0, 2/2 1 7 0, 3/3 2 7 0", ""},                                                                        // 5
		{six, "5/1 0 7 0", "15 5/1"},             // 6
		{six, "5/1 0 7 0, 15/2 2 7 0", ""},       // 6
		{six, "5/1 0 7 0, 16/2 2 7 0", "15 5/1"}, // 6
		{"SEQ(!Cancel c, Order o) WITHIN 10", "2/1 1 0 0, 12/2 0 0 0, 13/3 0 0 0", "13 13/3"},                                    // 7
		{eight, "1/1 0 0 2, 2/2 0 0 1, 3/3 0 0 3, 4/4 2 0 5", "4 1/1,3/3,4/4 [2 1] -> [{true 2} {true 2}]"},                      // 8
		{"SEQ(Order a) WHERE a.qty / a.acct = 1 OR a.acct = 0 WITHIN 0", "1/1 0 0 4", "1 1/1"},                                   // 9
		{"SEQ(Order a) WHERE NOT (a.qty / a.acct = 1) WITHIN 0", "1/1 0 0 4", ""},                                                // 9
		{"SEQ(Order a, Order b) AFTER NEXT WITHIN 100", three, "2 1/1,2/2; 3 2/2,3/3"},                                           // 10
		{"SEQ(Order a, Order b) AFTER PAST WITHIN 100", three, "2 1/1,2/2"},                                                      // 10
		{"SEQ(Order a, Order b) AFTER ONCE WITHIN 100", three, "2 1/1,2/2"},                                                      // 10
		{"SEQ(Order a, Order b) AFTER PAST WITHIN 100", three + ", 4/4 0 0 0", "2 1/1,2/2; 4 3/3,4/4"},                           // 10
		{"SEQ(Order+ a, Order+ b) WITHIN 9", three, "2 1/1,2/2; 3 1/1,2/2,3/3 [1 2]; 3 1/1,2/2,3/3 [2 1]; 3 1/1,3/3; 3 2/2,3/3"}, // 11
	} {
		for _, isBackwards := range []bool{false, true} {
			g, f := engine.Open("type Order(acct, qty) type Cancel(acct) type Ship(acct, qty)", "PATTERN "+c.query, 9)
			if g == nil {
				t.Fatalf("16.1: %s: %+v", c.query, f)
			}
			var l []api.Event
			for part := range strings.SplitSeq(c.events, ", ") {
				var e api.Event
				if _, err := fmt.Sscanf(part, "%d/%d %d %d %d", &e.Ts, &e.Id, &e.Type, &e.Attrs[0], &e.Attrs[1]); err != nil {
					t.Fatal(part, err)
				}
				l = append(l, e)
			}
			for i := range l {
				e := l[i]
				if isBackwards {
					e = l[len(l)-1-i]
				}
				if code := g.Push(e); code != api.OK {
					t.Fatalf("16.2: %s: Push(%+v): %d", c.query, e, int(code))
				}
			}
			if got := told(g.Flush()); got != c.want {
				t.Errorf("16.9: %s: %s: %s, want %s", c.query, c.events, got, c.want)
			}
		}
	}
}

// What the tests write and read themselves.
func TestTexts(t *testing.T) {
	got := fmt.Sprint(events("1/2 A 7 3, -4/5 B 8"))
	if want := fmt.Sprint([]api.Event{{Ts: 1, Id: 2, Attrs: [8]int64{3, 7}}, {Ts: -4, Id: 5, Type: 1, Attrs: [8]int64{8}}}); got != want {
		t.Errorf("%s, want %s", got, want)
	}
	m := api.Match{Decide: 5, Names: names("1/1 2/18446744073709551615"), Lens: []int{2}, Vals: []api.Val{{Known: true, N: 3}}}
	if got := spell([]api.Match{m, m}); got != "5 1/1,2/18446744073709551615 [2] -> [{true 3}]; 5 1/1,2/18446744073709551615 [2] -> [{true 3}]" {
		t.Error(got)
	}
	if same([]api.Match{m}, []api.Match{{Decide: 5, Names: m.Names, Lens: m.Lens}}) || !same([]api.Match{m}, cloned([]api.Match{m})) {
		t.Error("results count")
	}
	if whole(api.State{Held: []api.Event{}}) != whole(api.State{}) || whole(api.State{Waiting: []api.Match{{}}}) == whole(api.State{}) {
		t.Error("nil and empty lists are alike, and nothing else")
	}
}

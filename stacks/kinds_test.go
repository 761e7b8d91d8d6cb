package stacks_test

import (
	"fmt"
	"math"
	"strings"

	"sluice/api"
	"sluice/event"
	"sluice/parse"
	"sluice/plan"
)

// scatter: numbers below n that look drawn, the same ones for one seed.
func scatter(seed uint64) func(n int) int {
	state := 88172645463325252 + seed<<32
	return func(n int) int {
		state ^= state << 13
		state ^= state >> 7
		state ^= state << 17
		return int(state % uint64(n))
	}
}

// The schema of all tests, and the numbers of its types.
const schema = "type A(x) type B(x) type C(x) type D(x)"

const (
	typeA = iota
	typeB
	typeC
	typeD
)

// made: the plan of a query text without the word PATTERN.
func made(query string) api.Plan {
	s, code, _ := event.ParseSchema(schema)
	q, _, other, at := parse.Parse("PATTERN " + query)
	if code != api.OK || other != api.OK {
		panic(fmt.Sprintf("no query: %q: %d at %d", query, int(other), at))
	}
	p, flaw := plan.Build(s, q)
	if flaw != (api.Flaw{}) {
		panic(fmt.Sprintf("no plan: %q: %d", query, int(flaw.Code)))
	}
	return p
}

// chapter: the query of the chapter's examples.
const chapter = "SEQ(A a, !C n, (A|B) b) WHERE a.x > 0 WITHIN 5"

// queries: negated items in all places, repeated items, types in several components, own filters that are true, false and unknown, conditions that are no own filters.
var queries = []string{
	chapter,
	"SEQ(A a) WITHIN 0",
	"SEQ(A+ a, A+ b, (A|B) c) WITHIN 4",
	"SEQ(!C m, A a, !(B|C) n) WITHIN 3",
	"SEQ((A|B|C) a, (B|C) b{2,3}, !D n, A c, (A|C) d) WHERE a.x < 3 AND b.x > 1 AND b.x > PREV(b.x) AND c.x >= a.x AND d.x = d.ts % 4 AND COUNT(b) = 2 WITHIN 7",
	"SEQ((A|B) a, !D n, (B|A) b) WHERE 3 / a.x > 1 AND NOT (6 / b.x = 2) AND n.x = a.x WITHIN 2",
	"SEQ(A a, B b, C c) USING STRICT AFTER ONCE WHERE FALSE WITHIN 5 PARTITION BY x RETURN a.x",
	"SEQ(A a, A b, A c, A d, A e, A f, A g, A h, A i, A j) WHERE f.x = 1 WITHIN 9",
	"SEQ(D a, C b, B c, A d) WHERE a.x != 2 AND d.x != 2 WITHIN 6",
}

// ev: an event of a type with a value.
func ev(ts int64, id uint64, typ int, x int64) api.Event {
	return api.Event{Ts: ts, Id: id, Type: typ, Attrs: [api.MaxAttrs]int64{x}}
}

// shown: events by their names.
func shown(l []api.Event) string {
	var out []string
	for _, e := range l {
		out = append(out, fmt.Sprintf("%d/%d", e.Ts, e.Id))
	}
	return "[" + strings.Join(out, " ") + "]"
}

var wildTimes = []int64{math.MinInt64, math.MinInt64 + 1, api.NoMark - 1, api.NoMark, api.MinTs, api.MinTs + 1, -1, 0, 1, api.MaxTs - 1, api.MaxTs, api.MaxTs + 1, math.MaxInt64 - 1, math.MaxInt64}

var wildIds = []uint64{0, 1, math.MaxInt64, 1 << 63, math.MaxUint64 - 1, math.MaxUint64}

var wildNumbers = []int{math.MinInt, math.MinInt + 1, -1000, -2, -1, 1000, math.MaxInt32, math.MaxInt - 1, math.MaxInt}

// drawEvent: most often one a little behind a time, now and then one ahead of it or far away, or of no type.
func drawEvent(pick func(int) int, now int64) api.Event {
	e := ev(now+int64(pick(8)/3), uint64(pick(9)), pick(4), int64(pick(4)))
	switch pick(40) {
	case 0:
		e.Type = wildNumbers[pick(len(wildNumbers))]
	case 1:
		e.Ts -= int64(pick(12))
	case 2:
		e.Id = wildIds[pick(len(wildIds))]
	}
	return e
}

// scrawl writes over a list and its spare room, grows it within that room and beyond it, and writes over that too.
func scrawl(l []api.Event) {
	all := l[:cap(l)]
	for i := range all {
		all[i] = ev(-99, 99, 99, 99)
	}
	for range 3 {
		l = append(l, ev(-77, 77, 77, 77))
		clear(l)
	}
}

package guard_test

import (
	"fmt"
	"math"
	"strings"

	"sluice/api"
	"sluice/event"
	"sluice/parse"
	"sluice/plan"
)

// scatter: numbers below n that look drawn, the same ones for one seed.
func scatter(seed uint64) func(n int) int {
	state := 88172645463325252 + seed<<32
	return func(n int) int {
		state ^= state << 13
		state ^= state >> 7
		state ^= state << 17
		return int(state % uint64(n))
	}
}

// The schema of all tests, and the numbers of its types.
const schema = "type A(x, k) type B(x, k) type C(k) type D(x)"

const (
	typeA = iota
	typeB
	typeC
	typeD
)

func schemaOf() api.Schema {
	s, code, _ := event.ParseSchema(schema)
	if code != api.OK {
		panic("no schema")
	}
	return s
}

// made: the plan of a query text without the word PATTERN.
func made(query string) api.Plan {
	q, _, code, at := parse.Parse("PATTERN " + query)
	if code != api.OK {
		panic(fmt.Sprintf("no query: %q: %d at %d", query, int(code), at))
	}
	return planned(q)
}

func planned(q api.Query) api.Plan {
	p, flaw := plan.Build(schemaOf(), q)
	if flaw != (api.Flaw{}) {
		panic(fmt.Sprintf("no plan: %+v: %d", q, int(flaw.Code)))
	}
	return p
}

// chapter, ends: the queries of the chapter's examples.
const (
	chapter = "SEQ(A a, !B n, C c) WHERE n.x = 1 AND n.k = a.k WITHIN 5"
	ends    = "SEQ(!B m, A a, !B n) WITHIN 5"
)

// queries: negations that lead, trail, stand between and beside each other, and none; own filters and other conjuncts that are true, false and unknown, that mention components ahead of the item and behind it, single and repeated ones, the item several times, and nothing.
var queries = []string{
	chapter,
	ends,
	"SEQ(A+ a, !B n, !B m, C c) WHERE n.x > SUM(a.x) AND m.k = c.k AND m.x = 3 WITHIN 9",
	"SEQ(!(A|B) m, !B o, (A|C) a, !(B|C) n, B+ b, !A p, !(C|A|B) q) WHERE m.k = LAST(b.k) AND o.x / a.k > 0 AND n.k >= a.k AND n.k <= COUNT(b) AND p.x = 2 AND q.ts > a.ts + 2 WITHIN 4",
	"SEQ(A a, !B n, C c, !(A|D) m, B b) WHERE 2 / n.x = 1 AND (n.k = a.k OR n.k = c.k) AND m.x / b.x = 1 AND NOT (m.x / a.x = 1) WITHIN 6",
	"SEQ(!D n, A a, C c) WHERE n.x = c.k OR a.x = 1 WITHIN 0",
	"SEQ(A a, B b, !C n) USING STRICT AFTER ONCE WHERE FALSE AND n.k = b.x + a.x - 1 AND n.k < 3 WITHIN 7 PARTITION BY k RETURN a.x",
	"SEQ(!A l, A+ a, !A n, A+ b, !A m) WHERE n.x != MIN(a.x) AND m.x > MAX(b.x) AND l.x < COUNT(a) + COUNT(b) AND n.x > FIRST(b.x) WITHIN 3",
	"SEQ(A a, B b) WHERE a.x = b.x WITHIN 3",
}

// ev: an event of a type with its values.
func ev(ts int64, id uint64, typ int, vals ...int64) api.Event {
	e := api.Event{Ts: ts, Id: id, Type: typ}
	copy(e.Attrs[:], vals)
	return e
}

// bind: a binding of single events.
func bind(l ...api.Event) api.Binding {
	var b api.Binding
	for _, e := range l {
		b = append(b, []api.Event{e})
	}
	return b
}

// shown: events by their names.
func shown(l []api.Event) string {
	var out []string
	for _, e := range l {
		out = append(out, fmt.Sprintf("%d/%d", e.Ts, e.Id))
	}
	return "[" + strings.Join(out, " ") + "]"
}

var wildTimes = []int64{math.MinInt64, math.MinInt64 + 1, math.MinInt64 + 5, math.MinInt64 + 6, api.NoMark - 1, api.NoMark, api.MinTs, api.MinTs + 1, -1, 0, 1, 5, 6, api.MaxTs - 1, api.MaxTs, api.MaxTs + 1, math.MaxInt64 - 6, math.MaxInt64 - 5, math.MaxInt64 - 1, math.MaxInt64}

var wildIds = []uint64{0, 1, math.MaxInt64, 1 << 63, math.MaxUint64 - 1, math.MaxUint64}

var wildNumbers = []int{math.MinInt, math.MinInt + 1, -1000, -2, -1, 1000, math.MaxInt32, math.MaxInt - 1, math.MaxInt}

// drawEvent: most often one a little behind a time, now and then one ahead of it or far away, or of no type.
func drawEvent(pick func(int) int, now int64) api.Event {
	e := ev(now+int64(pick(8)/3), uint64(pick(9)), pick(4), int64(pick(4)), int64(pick(4)))
	if e.Type == typeC || e.Type == typeD {
		e.Attrs[1] = 0
	}
	switch pick(40) {
	case 0:
		e.Type = wildNumbers[pick(len(wildNumbers))]
	case 1:
		e.Ts -= int64(pick(12))
	case 2:
		e.Id = wildIds[pick(len(wildIds))]
	}
	return e
}

// drawBinding: most often one that fits, of rising events of the components' types, around a time and around the names of these events.
func drawBinding(pick func(int) int, p api.Plan, now int64, near []api.Event) api.Binding {
	var b api.Binding
	at := api.Name{Ts: now - int64(pick(int(p.Query.Within)+6)), Id: uint64(pick(9))}
	for _, c := range p.Comps {
		list := make([]api.Event, c.Lo+pick(c.Hi-c.Lo+1))
		for i := range list {
			list[i] = ev(at.Ts, at.Id, c.Types[pick(len(c.Types))], int64(pick(4)), int64(pick(4)))
			if len(near) > 0 && pick(4) == 0 { // the name of an event that is there
				e := near[pick(len(near))]
				list[i].Ts, list[i].Id = e.Ts, e.Id
			}
			at.Ts, at.Id = at.Ts+int64(pick(5)), at.Id+uint64(pick(3))
		}
		b = append(b, list)
	}
	switch pick(24) {
	case 0:
		return b[:pick(len(b))]
	case 1:
		return append(b, []api.Event{ev(at.Ts, at.Id, typeC)})
	case 2:
		b[pick(len(b))] = nil
	case 3:
		b[pick(len(b))][0].Ts = wildTimes[pick(len(wildTimes))]
	case 4:
		b[0], b[len(b)-1] = b[len(b)-1], b[0]
	}
	return b
}

// scrawl writes over a list and its spare room, grows it within that room and beyond it, and writes over that too.
func scrawl(l []api.Event) {
	all := l[:cap(l)]
	for i := range all {
		all[i] = ev(-99, 99, 99, 99)
	}
	for range 3 {
		l = append(l, ev(-77, 77, 77, 77))
		clear(l)
	}
}

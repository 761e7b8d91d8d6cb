package hunt_test

import (
	"fmt"
	"math"
	"strings"
	"testing"

	"sluice/api"
	"sluice/event"
	"sluice/guard"
	"sluice/hunt"
	"sluice/parse"
	"sluice/plan"
	"sluice/stacks"
)

// scatter: numbers below n that look drawn, the same ones for one seed.
func scatter(seed uint64) func(n int) int {
	state := 88172645463325252 + seed<<32
	return func(n int) int {
		state ^= state << 13
		state ^= state >> 7
		state ^= state << 17
		return int(state % uint64(n))
	}
}

// The schema of all tests, and the numbers of its types.
const schema = "type A(x, k) type B(x, k) type C(k) type D(x)"

const (
	typeA = iota
	typeB
	typeC
	typeD
)

func schemaOf() api.Schema {
	s, code, _ := event.ParseSchema(schema)
	if code != api.OK {
		panic("no schema")
	}
	return s
}

func read(query string) api.Query {
	q, _, code, at := parse.Parse("PATTERN " + query)
	if code != api.OK {
		panic(fmt.Sprintf("no query: %q: %d at %d", query, int(code), at))
	}
	return q
}

func planned(q api.Query) api.Plan {
	p, flaw := plan.Build(schemaOf(), q)
	if flaw != (api.Flaw{}) {
		panic(fmt.Sprintf("no plan: %+v: %d", q, int(flaw.Code)))
	}
	return p
}

// made: the plan of a query text without the word PATTERN.
func made(query string) api.Plan { return planned(read(query)) }

var modes = []api.Mode{api.ModeAny, api.ModeNext, api.ModeStrict}

// moded: the plans of the same query in each of the modes.
func moded(query string) []api.Plan {
	var out []api.Plan
	for _, mode := range modes {
		q := read(query)
		q.Mode = mode
		out = append(out, planned(q))
	}
	return out
}

// chapter: the query of the chapter's examples.
const chapter = "SEQ(A a, B+ b) WHERE b.x > a.x WITHIN 10"

// queries: components alone and in rows, single and repeated, of the same types and of several; negations that lead, stand between, trail and stand beside each other; own filters and other conditions that are true, false and unknown, that go through a list event by event, that mention components on both sides, single and repeated ones, barely and by aggregates; and conditions that mention nothing. Each is tried in each mode.
var queries = []string{
	chapter,
	"SEQ(A a, B b) WITHIN 4",
	"SEQ((A|B) a) WITHIN 3",
	"SEQ(A+ a) WHERE a.x > PREV(a.x) AND SUM(a.x) < 6 WITHIN 9",
	"SEQ(A+ a, A+ b) WITHIN 3",
	"SEQ(A a, !A n, B b) WITHIN 5",
	"SEQ(A a, B b, !A n) WHERE b.x != a.x AND n.x = 1 WITHIN 5",
	"SEQ(!B n, A a) WITHIN 2",
	"SEQ(!B m, !(C|D) l, A a, !B n, !C o, (A|B) b{1,2}) WHERE m.x >= a.x AND l.ts + 3 > a.ts AND n.x > LAST(b.x) AND o.k = a.k WITHIN 5",
	"SEQ((A|B) a{2,3}, !D n, (B|A|C) b) WHERE a.x >= PREV(a.x) AND SUM(a.x) <= b.k + 4 AND n.x < COUNT(a) AND a.k + b.k > 0 WITHIN 6",
	"SEQ(A a, B+ b, A c) WHERE a.x > 0 AND b.x > 0 AND 4 / c.x > 1 AND b.x - PREV(b.x) < MAX(b.x) AND COUNT(b) + a.x >= c.x WITHIN 6",
	"SEQ(A a, (A|B) b, A c, !B n) WHERE NOT (a.x / b.x = 1) AND (c.x / a.x > 0 OR b.k = c.k) AND a.k <= c.k AND n.k = b.k WITHIN 8 RETURN a.x / b.x, b.k",
	"SEQ(A a, B b{1,3}, C c{1,2}) WHERE MIN(b.x) + COUNT(c) > a.x AND b.k != FIRST(b.x) - 1 AND c.k >= a.k + COUNT(b) - 2 AND 1 < 2 WITHIN 7 PARTITION BY k",
	"SEQ(D a, (D|A) b{2,2}, !D n, (D|B) c, !D m) AFTER ONCE WHERE b.ts > PREV(b.ts) AND n.x = a.x AND c.x >= a.x WITHIN 9 RETURN SUM(b.x), COUNT(b), c.x % a.x",
	"SEQ(B a, B b, B c) WHERE 1 / 0 = 1 OR a.x < 3 WITHIN 9",
	"SEQ(A a, B b) WHERE 1 / 0 = 1 WITHIN 9",
}

// ev: an event of a type with its values.
func ev(ts int64, id uint64, typ int, vals ...int64) api.Event {
	e := api.Event{Ts: ts, Id: id, Type: typ}
	copy(e.Attrs[:], vals)
	return e
}

// bind: a binding of single events.
func bind(l ...api.Event) api.Binding {
	var b api.Binding
	for _, e := range l {
		b = append(b, []api.Event{e})
	}
	return b
}

// shown: events by their names.
func shown(l []api.Event) string {
	var out []string
	for _, e := range l {
		out = append(out, fmt.Sprintf("%d/%d", e.Ts, e.Id))
	}
	return "[" + strings.Join(out, " ") + "]"
}

// told: bindings by their lists.
func told(l ...api.Binding) string {
	var out []string
	for _, b := range l {
		text := ""
		for _, list := range b {
			text += shown(list)
		}
		out = append(out, text)
	}
	return strings.Join(out, " ")
}

// field: stacks and guards of a plan, that are told the same.
type field struct {
	p api.Plan
	s *stacks.Stacks
	g *guard.Guards
}

func open(p api.Plan, l ...api.Event) *field {
	f := &field{p, stacks.New(p), guard.New(p)}
	for _, e := range l {
		f.add(e)
	}
	return f
}

func (f *field) add(e api.Event) bool {
	if !f.s.Add(e) {
		return false
	}
	f.g.Add(e)
	return true
}

func (f *field) prune(bound int64) {
	f.s.Prune(bound)
	f.g.Prune(bound)
}

func (f *field) all() []api.Binding { return hunt.All(f.p, f.s, f.g) }

// each: what Each goes through.
func (f *field) each() []api.Binding {
	var out []api.Binding
	for b := range hunt.Each(f.p, f.s, f.g) {
		out = append(out, b)
	}
	return out
}

// state: all that stacks and guards tell, as a text.
func (f *field) state() string {
	var out strings.Builder
	fmt.Fprintln(&out, f.s.Len(), f.s.Log())
	for comp := range f.p.Comps {
		for i := range f.s.Depth(comp) {
			x, ok := f.s.At(comp, i)
			fmt.Fprintln(&out, comp, x, ok)
		}
	}
	for neg := range f.p.Negs {
		fmt.Fprintln(&out, neg, f.g.Kept(neg))
	}
	return out.String()
}

var wildTimes = []int64{math.MinInt64, math.MinInt64 + 1, api.NoMark - 1, api.NoMark, api.MinTs, api.MinTs + 1, -1, 0, 1, 5, api.MaxTs - 1, api.MaxTs, api.MaxTs + 1, math.MaxInt64 - 5, math.MaxInt64 - 1, math.MaxInt64}

var wildNumbers = []int{math.MinInt, math.MinInt + 1, -1000, -2, -1, 1000, math.MaxInt32, math.MaxInt - 1, math.MaxInt}

// drawEvent: most often one of the stream, a little behind the last one.
func drawEvent(pick func(int) int, p api.Plan, last api.Event) api.Event {
	e := ev(last.Ts, last.Id+1+uint64(pick(2)), pick(4), int64(pick(4)), int64(pick(3)))
	if pick(4) > 0 {
		e.Ts, e.Id = e.Ts+int64(pick(3)), uint64(pick(5))
	}
	for !plan.InStream(p, e) && pick(8) > 0 {
		e.Type = pick(4)
	}
	switch e.Type {
	case typeC:
		e.Attrs = [api.MaxAttrs]int64{int64(pick(3))}
	case typeD:
		e.Attrs[1] = 0
	}
	return e
}

// drawLog: so many events of the stream in their order, from about a time on.
func drawLog(pick func(int) int, p api.Plan, many int, from int64) []api.Event {
	log := stacks.New(p)
	last := ev(from, 0, 0)
	for log.Len() < many {
		if e := drawEvent(pick, p, last); log.Add(e) {
			last = e
		}
	}
	return log.Log()
}

// scrawl writes over a binding's lists and their spare room, grows them within that room and beyond it, and writes over that too; then over the binding.
func scrawl(b api.Binding) {
	for i, l := range b {
		all := l[:cap(l)]
		for j := range all {
			all[j] = ev(-99, 99, 99, 99)
		}
		for range 3 {
			l = append(l, ev(-77, 77, 77, 77))
			clear(l)
		}
		b[i] = l
	}
	b = b[:cap(b)]
	for i := range b {
		b[i] = []api.Event{ev(-55, 55, 55)}
	}
}

// enough: did each of these come up so often?
func enough(t *testing.T, counts map[string]int, least int, kinds ...string) {
	t.Helper()
	for _, kind := range kinds {
		if counts[kind] < least {
			t.Errorf("%s came up %d times: too seldom", kind, counts[kind])
		}
	}
}

package engine_test

import (
	"fmt"
	"math"
	"slices"
	"strings"

	"sluice/api"
	"sluice/check"
	"sluice/event"
	"sluice/parse"
	"sluice/show"
)

// scatter: numbers below n that look drawn, the same ones for one seed.
func scatter(seed uint64) func(n int) int {
	state := 88172645463325252 + seed<<32
	return func(n int) int {
		state ^= state << 13
		state ^= state >> 7
		state ^= state << 17
		return int(state % uint64(n))
	}
}

// The schema of all tests, and the numbers of its types. Where they have the attribute k is not the same place for all.
const schema = "type A(x, k) type B(k, x) type C(k) type D(x)"

const (
	typeA = iota
	typeB
	typeC
	typeD
)

func schemaOf() api.Schema {
	s, code, _ := event.ParseSchema(schema)
	if code != api.OK {
		panic("no schema")
	}
	return s
}

// read: the query of a text without the word PATTERN.
func read(query string) api.Query {
	q, _, code, at := parse.Parse("PATTERN " + query)
	if code != api.OK {
		panic(fmt.Sprintf("no query: %q: %d at %d", query, int(code), at))
	}
	if flaw := check.Check(schemaOf(), q); flaw != (api.Flaw{}) {
		panic(fmt.Sprintf("not well formed: %q: %d", query, int(flaw.Code)))
	}
	return q
}

func printed(q api.Query) string {
	text, code := show.Print(q)
	if code != api.OK {
		panic(fmt.Sprintf("no text: %+v: %d", q, int(code)))
	}
	return text
}

// ev: an event of a type; k is nothing of a D.
func ev(ts int64, id uint64, typ int, k, x int64) api.Event {
	e := api.Event{Ts: ts, Id: id, Type: typ}
	switch typ {
	case typeA:
		e.Attrs = [api.MaxAttrs]int64{x, k}
	case typeB:
		e.Attrs = [api.MaxAttrs]int64{k, x}
	case typeC:
		e.Attrs = [api.MaxAttrs]int64{k}
	case typeD:
		e.Attrs = [api.MaxAttrs]int64{x}
	}
	return e
}

// events as the chapter writes them, timestamp/id type k, with x behind it where it counts: "1/1 A 7, 2/1 B 8 3".
func events(text string) []api.Event {
	var out []api.Event
	for part := range strings.SplitSeq(text, ",") {
		var ts, k, x int64
		var id uint64
		var typ byte
		if n, err := fmt.Sscanf(strings.TrimSpace(part)+" 0 0", "%d/%d %c %d %d", &ts, &id, &typ, &k, &x); n < 5 {
			panic(fmt.Sprintf("no event: %q: %v", part, err))
		}
		out = append(out, ev(ts, id, int(typ-'A'), k, x))
	}
	return out
}

// names of such texts.
func names(text string) []api.Name {
	var out []api.Name
	for part := range strings.FieldsSeq(text) {
		var n api.Name
		if _, err := fmt.Sscanf(part, "%d/%d", &n.Ts, &n.Id); err != nil {
			panic(err)
		}
		out = append(out, n)
	}
	return out
}

func spellNames(l []api.Name) string {
	var out []string
	for _, n := range l {
		out = append(out, fmt.Sprintf("%d/%d", n.Ts, n.Id))
	}
	return strings.Join(out, " ")
}

func spellEvents(l []api.Event) string {
	var out []string
	for _, e := range l {
		out = append(out, fmt.Sprintf("%d/%d", e.Ts, e.Id))
	}
	return strings.Join(out, " ")
}

// spell: matches as the chapter writes them: decide, names; then the lengths, if a component is repeated, and the results.
func spell(l []api.Match) string {
	var out []string
	for _, m := range l {
		text := fmt.Sprintf("%d %s", m.Decide, strings.ReplaceAll(spellNames(m.Names), " ", ","))
		if len(m.Lens) != len(m.Names) {
			text += fmt.Sprint(" ", m.Lens)
		}
		if len(m.Vals) > 0 {
			text += fmt.Sprint(" -> ", m.Vals)
		}
		out = append(out, text)
	}
	return strings.Join(out, "; ")
}

// whole: all that stands in a state. Nil and empty lists are written alike.
func whole(st api.State) string { return fmt.Sprintf("%+v", st) }

// sameMatch: have they the same in them, all of it? Nil and empty lists are the same.
func sameMatch(a, b api.Match) bool {
	return a.Decide == b.Decide && slices.Equal(a.Names, b.Names) && slices.Equal(a.Lens, b.Lens) && slices.Equal(a.Vals, b.Vals)
}

func same(a, b []api.Match) bool { return slices.EqualFunc(a, b, sameMatch) }

// cloned: matches in memory of their own.
func cloned(l []api.Match) []api.Match {
	l = slices.Clone(l)
	for i, m := range l {
		l[i].Names, l[i].Lens, l[i].Vals = slices.Clone(m.Names), slices.Clone(m.Lens), slices.Clone(m.Vals)
	}
	return l
}

// copyOf a state in memory of its own.
func copyOf(st api.State) api.State {
	st.Schema.Types = slices.Clone(st.Schema.Types)
	for i := range st.Schema.Types {
		st.Schema.Types[i].Attrs = slices.Clone(st.Schema.Types[i].Attrs)
	}
	st.Query.Items, st.Query.Where, st.Query.Ret = slices.Clone(st.Query.Items), slices.Clone(st.Query.Where), slices.Clone(st.Query.Ret)
	for i := range st.Query.Items {
		st.Query.Items[i].Types = slices.Clone(st.Query.Items[i].Types)
	}
	for i := range st.Query.Ret {
		st.Query.Ret[i] = slices.Clone(st.Query.Ret[i])
	}
	st.Held, st.Kept, st.Waiting, st.Used = slices.Clone(st.Held), slices.Clone(st.Kept), cloned(st.Waiting), slices.Clone(st.Used)
	return st
}

func compareNames(a, b api.Name) int {
	switch {
	case a.Before(b):
		return -1
	case b.Before(a):
		return 1
	}
	return 0
}

// inOrder: the events in the order of their names.
func inOrder(l []api.Event) []api.Event {
	return slices.SortedFunc(slices.Values(l), func(e, f api.Event) int { return compareNames(e.Name(), f.Name()) })
}

// shuffled: the same in another order.
func shuffled[T any](pick func(int) int, l []T) []T {
	l = slices.Clone(l)
	for i := range l {
		j := i + pick(len(l)-i)
		l[i], l[j] = l[j], l[i]
	}
	return l
}

// queries: with and without partitions; negations that lead, stand between, trail, stand beside each other, with and without conditions; components single and repeated; windows of no length and of some; results that are known and unknown. Each is tried with each clause AFTER in each mode.
var queries = []string{
	"SEQ(A a, !B n, C c) WITHIN 5 PARTITION BY k",
	"SEQ(A a, A b) WITHIN 3",
	"SEQ(A a, (A|B) b) WHERE a.x <= b.x WITHIN 4 PARTITION BY k RETURN b.x / a.x",
	"SEQ((A|B) a) WITHIN 0 PARTITION BY k",
	"SEQ(A+ a, B b) WHERE a.x >= PREV(a.x) WITHIN 4 PARTITION BY k RETURN SUM(a.x), b.x / COUNT(a)",
	"SEQ(A+ a, A+ b) WITHIN 3 PARTITION BY k",
	"SEQ(A a, !B n) WITHIN 3 PARTITION BY k",
	"SEQ(A a, B b, !A n, !(B|C) m) WHERE n.x = a.x AND m.k = b.x WITHIN 4",
	"SEQ(!B n, A a) WITHIN 2 PARTITION BY k",
	"SEQ(!C n, A a, B b, !C m) WITHIN 4 PARTITION BY k",
	"SEQ(!(B|C) n, A a{1,2}, !B m) WHERE m.x >= LAST(a.x) AND n.k = FIRST(a.x) WITHIN 4 RETURN COUNT(a)",
	"SEQ(!B l, A a{1,2}, !C n, A b, !B m) WHERE l.x = b.x AND m.x >= FIRST(a.x) WITHIN 5 PARTITION BY k RETURN 1 / b.x",
	"SEQ(D a, !A n, (A|D) b, !D m) WHERE n.x = a.x AND m.x > b.x WITHIN 4",
}

var modes = []api.Mode{api.ModeAny, api.ModeNext, api.ModeStrict}

var afters = []api.After{api.AfterAll, api.AfterNext, api.AfterPast, api.AfterOnce}

// everyQuery hands all of them over, as texts.
func everyQuery(do func(text string)) {
	for _, text := range queries {
		for _, mode := range modes {
			for _, after := range afters {
				q := read(text)
				q.Mode, q.After = mode, after
				do(printed(q))
			}
		}
	}
}

// everyAfter hands a query over with each clause AFTER.
func everyAfter(text string, do func(text string)) {
	for _, after := range afters {
		q := read(text)
		q.After = after
		do(printed(q))
	}
}

var wildTimes = []int64{math.MinInt64, math.MinInt64 + 1, api.NoMark - 1, api.NoMark, api.MinTs, api.MinTs + 1, -1, 0, 1, 5, api.MaxTs - 1, api.MaxTs, api.MaxTs + 1, math.MaxInt64 - 5, math.MaxInt64 - 1, math.MaxInt64}

var wildNumbers = []int{math.MinInt, math.MinInt + 1, -1000, -2, -1, 1000, math.MaxInt32, math.MaxInt - 1, math.MaxInt}

// about: a time about which events and marks are drawn, at a mark.
func about(mark int64) int64 { return max(mark, -3) }

// drawEvent: most often one a little above a mark, now and then at it or below it, of no item, or not of the schema.
func drawEvent(pick func(int) int, mark int64) api.Event {
	e := ev(about(mark)+int64(1+pick(5)), uint64(pick(6)), []int{typeA, typeA, typeA, typeB, typeB, typeC, typeD}[pick(7)], int64(pick(2)-1), int64(pick(3)))
	switch pick(50) {
	case 0:
		e.Type = wildNumbers[pick(len(wildNumbers))]
	case 1:
		e.Attrs[2+pick(api.MaxAttrs-2)] = 1
	case 2:
		e.Ts = wildTimes[pick(len(wildTimes))]
	case 3, 4:
		e.Ts -= 4
	}
	return e
}

// drawMark: most often one a little ahead of a mark, now and then behind it.
func drawMark(pick func(int) int, mark int64) int64 {
	if pick(30) == 0 {
		return wildTimes[pick(10)] // none far ahead of the events
	}
	return about(mark) + int64(pick(5)-1)
}

// enough tells of what came up less often than so.
func enough(counts map[string]int, least int, kinds ...string) error {
	for _, kind := range kinds {
		if counts[kind] < least {
			return fmt.Errorf("%s came up %d times: too seldom", kind, counts[kind])
		}
	}
	return nil
}

package hunt_test

import (
	"fmt"
	"iter"
	"math"
	"slices"
	"testing"

	"sluice/api"
	"sluice/event"
	"sluice/hunt"
	"sluice/plan"
)

// fits: does Fits answer so, twice in a row? The second answer must be the same.
func fits(t *testing.T, p api.Plan, log []api.Event, want bool, l ...api.Binding) {
	t.Helper()
	for _, b := range l {
		for range 2 {
			if got := hunt.Fits(p, log, b); got != want {
				t.Errorf("13.1: Fits(%s, %s): %v", shown(log), told(b), got)
			}
		}
		if got := secondOf(p).flawOf(log, b) == 0; got != want {
			t.Errorf("the second answer: %s over %s: %v", told(b), shown(log), got)
		}
	}
}

// finds: do Each and All find just these bindings, twice in a row? Fits must agree, and the stacks and the guards stay as they are.
func finds(t *testing.T, where string, f *field, want ...api.Binding) {
	t.Helper()
	state := f.state()
	for range 2 {
		if got := f.all(); told(got...) != told(want...) || !same(got, want) {
			t.Errorf("13.3: %s: %s, want %s", where, told(got...), told(want...))
		}
		got := f.each()
		slices.SortFunc(got, secondOf(f.p).order)
		if !same(got, want) {
			t.Errorf("13.2: %s: %s, want %s", where, told(got...), told(want...))
		}
	}
	for _, b := range want {
		if !hunt.Fits(f.p, f.s.Log(), b) {
			t.Errorf("13.1: %s: %s does not stand", where, told(b))
		}
	}
	if f.state() != state {
		t.Errorf("13.2: %s: the stacks or the guards are other ones", where)
	}
}

func same(a, b []api.Binding) bool {
	return slices.EqualFunc(a, b, func(x, y api.Binding) bool { return slices.EqualFunc(x, y, slices.Equal[[]api.Event]) })
}

// ends: what All finds behind the last of these events, as a text.
func ends(t *testing.T, p api.Plan, l ...api.Event) string {
	t.Helper()
	f := open(p, l...)
	found := f.all()
	finds(t, "behind "+shown(l), f, found...)
	if want := secondOf(p).completed(l); !same(found, want) {
		t.Errorf("13.3: behind %s: %s, want %s", shown(l), told(found...), told(want...))
	}
	return told(found...)
}

// lines: events by their lines.
func lines(l ...string) []api.Event {
	var out []api.Event
	for _, line := range l {
		e, code, _ := event.ParseEvent(schemaOf(), line)
		if code != api.OK {
			panic("no event: " + line)
		}
		out = append(out, e)
	}
	return out
}

// The chapter's table.
func TestExamples(t *testing.T) {
	l := lines("1 1 A 0 0", "2 2 B 5 0", "3 3 A 4 0", "4 4 B 7 0", "5 5 B 1 0", "11 6 B 9 0")
	for i, want := range []string{
		"",
		"[1/1][2/2]",
		"",
		"[1/1][2/2 4/4] [1/1][4/4] [3/3][4/4]",
		"[1/1][2/2 4/4 5/5] [1/1][2/2 5/5] [1/1][4/4 5/5] [1/1][5/5]",
		"[1/1][2/2 4/4 5/5 11/6] [1/1][2/2 4/4 11/6] [1/1][2/2 5/5 11/6] [1/1][2/2 11/6] [1/1][4/4 5/5 11/6] [1/1][4/4 11/6] [1/1][5/5 11/6] [1/1][11/6] [3/3][4/4 11/6] [3/3][11/6]",
	} {
		if got := ends(t, made(chapter), l[:i+1]...); got != want {
			t.Errorf("13.3: behind %s: %s, want %s", shown(l[:i+1]), got, want)
		}
	}
	for mode, want := range []string{"[1/1][2/2 4/4] [1/1][4/4] [3/3][4/4]", "[1/1][2/2 4/4] [3/3][4/4]", "[3/3][4/4]"} {
		if got := ends(t, moded(chapter)[mode], l[:4]...); got != want {
			t.Errorf("13.3: mode %d: %s, want %s", mode, got, want)
		}
	}
	if got := ends(t, made("SEQ(A a, !A n, B b) WITHIN 10"), lines("1 1 A 0 0", "2 2 A 0 0", "3 3 B 0 0")...); got != "[2/2][3/3]" {
		t.Errorf("13.3: a negation between: %s", got)
	}
	p := made("SEQ(A a, B b, !A n) WITHIN 10")
	f := open(p, lines("1 1 A 0 0", "2 2 A 0 0", "3 3 B 0 0")...)
	if got := f.all(); told(got...) != "[1/1][3/3] [2/2][3/3]" || hunt.Finish(p, got[0]).Decide != 11 || hunt.Finish(p, got[1]).Decide != 12 {
		t.Errorf("13.3: a negation that trails: %s", told(got...))
	}
}

// Promise 13.1: logs that are none, in which the binding would stand.
func TestFitsAsksForALog(t *testing.T) {
	for _, p := range moded("SEQ(A a, !C n, B b) WHERE n.k = 9 WITHIN 9") {
		a, b, c := ev(1, 1, typeA), ev(3, 3, typeB), ev(2, 2, typeC)
		x := bind(a, b)
		fits(t, p, []api.Event{a, b}, true, x)
		fits(t, p, []api.Event{a, c, b}, p.Query.Mode != api.ModeStrict, x)
		for _, log := range [][]api.Event{
			{b, a}, {a, b, b}, {a, a, b}, {a, b, c}, {c, a, b}, {a, b, ev(0, 9, typeA)}, {ev(9, 9, typeA), a, b},
			{a, b, ev(3, 3, typeA)}, {a, b, ev(3, 2, typeC)}, {ev(1, 2, typeC), a, b}, {a, b, ev(5, 5, typeA), ev(5, 4, typeA)}, // by the id alone
			{a, b, ev(4, 4, typeD)}, {ev(0, 0, typeD), a, b}, {a, b, ev(4, 4, -1)}, {a, b, ev(4, 4, 4)}, {ev(0, 0, math.MinInt), a, b}, // not in the stream
		} {
			if hunt.Fits(p, log, x) {
				t.Errorf("13.1: %v is no log", log)
			}
		}
		fits(t, p, nil, false, x, nil, bind(a), bind(b))
	}
	p := made("SEQ(A a, D d, B b) WITHIN 9")
	fits(t, p, []api.Event{ev(1, 1, typeA), ev(2, 2, typeD), ev(3, 3, typeB)}, true, bind(ev(1, 1, typeA), ev(2, 2, typeD), ev(3, 3, typeB)))
}

// Promise 13.1: too few and too many lists, empty ones, lists that are too short and too long, events of wrong types.
func TestFitsAsksForLists(t *testing.T) {
	var l []api.Event
	for i := range int64(8) {
		l = append(l, ev(i, 0, int(i%2)))
	}
	p := made("SEQ(A a, (A|B) b{2,3}, B c) WITHIN 9")
	fits(t, p, l, true, api.Binding{{l[0]}, {l[1], l[2]}, {l[3]}}, api.Binding{{l[0]}, {l[1], l[2], l[4]}, {l[7]}}, api.Binding{{l[4]}, {l[5], l[6]}, {l[7]}})
	fits(t, p, l, false,
		nil, api.Binding{}, api.Binding{{l[0]}}, api.Binding{{l[0]}, {l[1], l[2]}}, api.Binding{{l[0]}, {l[1], l[2]}, {l[3]}, {l[5]}}, api.Binding{{l[0]}, {l[1], l[2]}, {l[3]}, {}},
		api.Binding{{}, {l[1], l[2]}, {l[3]}}, api.Binding{{l[0]}, nil, {l[3]}}, api.Binding{{l[0]}, {l[1], l[2]}, {}}, make(api.Binding, 3),
		api.Binding{{l[0]}, {l[1]}, {l[3]}}, api.Binding{{l[0]}, {l[1], l[2], l[3], l[4]}, {l[5]}}, // below Lo, above Hi
		api.Binding{{l[0], l[2]}, {l[3], l[4]}, {l[5]}}, api.Binding{{l[0]}, {l[1], l[2]}, {l[3], l[5]}},
		api.Binding{{l[1]}, {l[2], l[3]}, {l[5]}}, api.Binding{{l[0]}, {l[1], l[2]}, {l[4]}}, // of a wrong type
		api.Binding{{l[0]}, {l[2], l[1]}, {l[3]}}, api.Binding{{l[0]}, {l[1], l[1]}, {l[3]}}, api.Binding{{l[0]}, {l[0], l[1]}, {l[3]}}, api.Binding{{l[2]}, {l[0], l[1]}, {l[3]}}, api.Binding{{l[0]}, {l[1], l[3]}, {l[3]}}, // not rising
	)
}

// Promise 13.1: events that the log has not, and such as differ from the log's in one field.
func TestFitsAsksForTheLogsEvents(t *testing.T) {
	p := made("SEQ((A|B) a, (A|B) b{1,2}) WITHIN 9")
	log := []api.Event{ev(1, 1, typeA, 1, 1), ev(2, 2, typeB, 2, 2), ev(3, 3, typeA, 3, 3)}
	x := func() api.Binding { return api.Binding{{log[0]}, {log[1], log[2]}} }
	fits(t, p, log, true, x())
	for comp, list := range x() {
		for at := range list {
			for field := range 3 + api.MaxAttrs {
				b := x()
				e := &b[comp][at]
				switch field {
				case 0:
					e.Ts -= 5
				case 1:
					e.Id += 5
				case 2:
					e.Type = 1 - e.Type
				default:
					e.Attrs[field-3]++
				}
				if comp == 0 || field > 0 { // else it stands ahead of the first one
					fits(t, p, log, false, b)
				}
				if hunt.Fits(p, log, b) {
					t.Errorf("13.1: %+v is no event of the log", *e)
				}
			}
		}
	}
	fits(t, p, log, false, bind(log[0], ev(9, 9, typeA)), bind(ev(0, 0, typeA), log[1]), bind(log[0], ev(2, 3, typeA)), bind(ev(1, 2, typeA), log[2]))
	fits(t, p, log[1:], false, x(), bind(log[0], log[1]))
	fits(t, p, log[:2], false, x(), bind(log[0], log[2]))
	fits(t, p, log[:2], true, bind(log[0], log[1]))
}

// Promises 13.1 to 13.3: the last timestamp less the first one is just the window, one more and one less, at timestamps of all sizes; at the ends of int64 too, where the difference wraps round.
func TestWindow(t *testing.T) {
	windows := []int64{0, 1, 5, api.MaxWindow}
	for _, query := range []string{"SEQ(A a, B b) WITHIN ", "SEQ(A a{1,2}, !C n, B+ b) USING NEXT WITHIN ", "SEQ(A a, B b, !A n) USING STRICT WITHIN "} {
		for _, window := range windows {
			p := made(query + fmt.Sprint(window))
			for _, ts := range wildTimes {
				for _, more := range []int64{0, window - 1, window, window + 1} {
					if more < 0 || ts > math.MaxInt64-more {
						continue
					}
					log := []api.Event{ev(ts, 1, typeA), ev(ts+more, 2, typeB)}
					fits(t, p, log, more <= window, bind(log...))
					if got := ends(t, p, log...); (got != "") != (more <= window) {
						t.Errorf("13.3: %s, window %d, from %d to %d: %s", query, window, ts, ts+more, got)
					}
				}
				for _, other := range wildTimes {
					if other > ts {
						log := []api.Event{ev(ts, 1, typeA), ev(other, 2, typeB)}
						fits(t, p, log, atMost(other, ts, window), bind(log...))
						ends(t, p, log...)
					}
				}
			}
		}
	}
	p := made("SEQ(A a, B b, C c, D d) WITHIN 6")
	log := []api.Event{ev(1, 0, typeA), ev(2, 0, typeA), ev(3, 0, typeB), ev(4, 0, typeA), ev(5, 0, typeC), ev(6, 0, typeB), ev(7, 0, typeC), ev(8, 0, typeD)}
	if got := ends(t, p, log...); got != "[2/0][3/0][5/0][8/0] [2/0][3/0][7/0][8/0] [2/0][6/0][7/0][8/0] [4/0][6/0][7/0][8/0]" {
		t.Errorf("13.3: %s", got)
	}
}

// Promises 13.1 to 13.3: a query whose only component is the first and the last.
func TestOneComponent(t *testing.T) {
	a, b, c := ev(1, 1, typeA, 1), ev(2, 2, typeA, 2), ev(3, 3, typeA, 3)
	for mode, p := range moded("SEQ(A a) WITHIN 0") {
		fits(t, p, []api.Event{a, b, c}, true, bind(a), bind(b), bind(c))
		fits(t, p, []api.Event{a, b, c}, false, bind(a, b), api.Binding{{a, b}}, api.Binding{{}})
		if got := ends(t, p, a, b, c); got != "[3/3]" {
			t.Errorf("13.3: mode %d: %s", mode, got)
		}
	}
	for mode, want := range []string{"[1/1 2/2 3/3] [1/1 3/3] [2/2 3/3] [3/3]", "[1/1 2/2 3/3] [2/2 3/3] [3/3]", "[1/1 2/2 3/3] [2/2 3/3] [3/3]"} {
		if got := ends(t, moded("SEQ(A+ a) WITHIN 9")[mode], a, b, c); got != want {
			t.Errorf("13.3: mode %d: %s, want %s", mode, got, want)
		}
	}
	for mode, want := range []string{"[1/1 3/3] [2/2 3/3]", "[2/2 3/3]", "[2/2 3/3]"} {
		if got := ends(t, moded("SEQ(!B m, A a{2,2}, !C n) WHERE COUNT(a) = 2 WITHIN 9")[mode], a, b, c); got != want {
			t.Errorf("13.3: mode %d: %s, want %s", mode, got, want)
		}
	}
}

// Promises 13.2, 13.3: nothing is found behind an event that the last component does not take, though bindings stand over the log.
func TestLastEventOfNoUse(t *testing.T) {
	for _, p := range moded("SEQ(A a, !C n, B b) WHERE b.x = 1 WITHIN 9") {
		log := []api.Event{ev(1, 1, typeA), ev(2, 2, typeB, 1)}
		if got := ends(t, p, log...); got != "[1/1][2/2]" {
			t.Errorf("13.3: %s", got)
		}
		for _, e := range []api.Event{ev(3, 3, typeC), ev(3, 3, typeA), ev(3, 3, typeB, 2)} { // of a negated item, of another component, of its type
			if got := ends(t, p, append(log, e)...); got != "" {
				t.Errorf("13.3: behind %d/%d of type %d: %s", e.Ts, e.Id, e.Type, got)
			}
			fits(t, p, append(log, e), true, bind(log...))
		}
		f := open(p, log...)
		if f.add(ev(3, 3, typeD)) || f.add(log[0]) {
			t.Error("an event is taken that is not of the stream, or is there")
		}
		finds(t, "behind what is refused", f, bind(log...))
		finds(t, "an empty log", open(p))
		f.prune(1)
		finds(t, "behind a Prune", f)
		f.prune(2)
		finds(t, "behind a Prune of all", f)
	}
}

// Promises 13.2, 13.3: components that repeat, up to their Hi, one behind the other.
func TestRepetition(t *testing.T) {
	var l []api.Event
	for i := range int64(6) {
		l = append(l, ev(i, 0, typeA, i))
	}
	for query, want := range map[string]string{
		"SEQ(A a{2,3}, A b{1,2}, A c) USING NEXT WITHIN 9":                "[0/0 1/0 2/0][3/0 4/0][5/0] [1/0 2/0][3/0 4/0][5/0] [1/0 2/0 3/0][4/0][5/0] [2/0 3/0][4/0][5/0]",
		"SEQ(A a{3,3}, A b{2,2}) WHERE b.x > PREV(b.x) WITHIN 9":          "[0/0 1/0 2/0][3/0 5/0] [0/0 1/0 2/0][4/0 5/0] [0/0 1/0 3/0][4/0 5/0] [0/0 2/0 3/0][4/0 5/0] [1/0 2/0 3/0][4/0 5/0]",
		"SEQ(A a{1,2}, A b{4,4}) USING STRICT WITHIN 9":                   "[0/0 1/0][2/0 3/0 4/0 5/0] [1/0][2/0 3/0 4/0 5/0]",
		"SEQ(A a{2,4}) USING NEXT WHERE SUM(a.x) != 9 WITHIN 9":           "[2/0 3/0 4/0 5/0] [3/0 4/0 5/0]",
		"SEQ(A a{2,4}) USING NEXT WHERE a.x + 2 >= MAX(a.x) WITHIN 9":     "[3/0 4/0 5/0] [4/0 5/0]",
		"SEQ(A+ a, A+ b) USING STRICT WHERE COUNT(a) = COUNT(b) WITHIN 9": "[0/0 1/0 2/0][3/0 4/0 5/0] [2/0 3/0][4/0 5/0] [4/0][5/0]",
		"SEQ(A a{4,4}, A b{4,4}) WITHIN 9":                                "",
		"SEQ(A a{3,3}, A b{3,3}) WITHIN 9":                                "[0/0 1/0 2/0][3/0 4/0 5/0]",
		"SEQ(A a{3,3}, A b{3,3}) WITHIN 4":                                "",
	} {
		if got := ends(t, made(query), l...); got != want {
			t.Errorf("13.3: %s: %s, want %s", query, got, want)
		}
	}
}

// Promises 13.1 to 13.3: the same event wanted by two components stands in one of them at a time.
func TestOneEventForTwo(t *testing.T) {
	a, b, c := ev(1, 1, typeA), ev(2, 2, typeA), ev(3, 3, typeB)
	if got := ends(t, made("SEQ(A a, A b) WITHIN 9"), a); got != "" {
		t.Errorf("13.3: %s", got)
	}
	if got := ends(t, made("SEQ(A a, A b) WITHIN 9"), a, b); got != "[1/1][2/2]" {
		t.Errorf("13.3: %s", got)
	}
	for mode, want := range []string{"[1/1][3/3] [2/2][3/3]", "[2/2][3/3]", "[2/2][3/3]"} {
		p := moded("SEQ((A|B) a, (B|A) b) WITHIN 9")[mode]
		if got := ends(t, p, a, b, c); got != want {
			t.Errorf("13.3: mode %d: %s, want %s", mode, got, want)
		}
		fits(t, p, []api.Event{a, b, c}, false, bind(a, a), bind(c, c), bind(b, a))
	}
	for mode, want := range []string{"[1/1][2/2 3/3] [1/1 2/2][3/3] [1/1][3/3] [2/2][3/3]", "[1/1][2/2 3/3] [1/1 2/2][3/3] [2/2][3/3]", "[1/1][2/2 3/3] [1/1 2/2][3/3] [2/2][3/3]"} {
		if got := ends(t, moded("SEQ(A+ a, (A|B)+ b) WITHIN 9")[mode], a, b, c); got != want { // of the same names the lengths differ
			t.Errorf("13.3: mode %d: %s, want %s", mode, got, want)
		}
	}
}

// Promises 13.1 to 13.3: each of the modes with each kind of event between two neighbours.
func TestModes(t *testing.T) {
	a, b := ev(1, 1, typeA), ev(3, 3, typeB, 5)
	for _, c := range []struct {
		what         string
		e            api.Event
		next, strict bool
	}{
		{"taken by the next component", ev(2, 2, typeB, 5), false, false},
		{"of its type, not taken", ev(2, 2, typeB, 1), true, false},
		{"of its type, its filter unknown", ev(2, 2, typeB, 0), true, false},
		{"taken by the component ahead", ev(2, 2, typeA), true, false},
		{"of a negated item alone", ev(2, 2, typeD, 1), true, false},
		{"ahead of both", ev(1, 0, typeB, 5), true, true},
		{"behind both", ev(3, 4, typeB, 5), true, true},
		{"just behind the first", ev(1, 2, typeB, 5), false, false},
		{"just ahead of the second", ev(3, 2, typeB, 5), false, false},
	} {
		for mode, p := range moded("SEQ(A a, !D n, B b) WHERE 10 / b.x = 2 AND n.x = 2 WITHIN 9") {
			log := []api.Event{a, b, c.e}
			slices.SortFunc(log, func(e, f api.Event) int { return event.Compare(e.Name(), f.Name()) })
			want := []bool{true, c.next, c.strict}[mode]
			fits(t, p, log, want, bind(a, b))
			if f := open(p, log...); c.what != "behind both" && slices.ContainsFunc(f.all(), func(x api.Binding) bool { return x[0][0] == a && x[1][0] == b }) != want {
				t.Errorf("13.3: mode %d, an event between that is %s: %s", mode, c.what, told(f.all()...))
			}
		}
	}
}

// Promises 13.1 to 13.3: within a repeated component too the event between is asked by the component of the second one; one that is bound itself does not stand between.
func TestModesWithinAComponent(t *testing.T) {
	log := []api.Event{ev(1, 1, typeA, 1), ev(2, 2, typeB, 1), ev(3, 3, typeC, 0), ev(4, 4, typeB, 0), ev(5, 5, typeB, 2), ev(6, 6, typeA, 1)}
	const query = "SEQ(A a, B+ b, (A|B) c, !C n) WHERE b.x > 0 WITHIN 9"
	for mode, want := range []string{"[1/1][2/2 5/5][6/6] [1/1][2/2][6/6] [1/1][5/5][6/6]", "[1/1][2/2 5/5][6/6]", ""} {
		if got := ends(t, moded(query)[mode], log...); got != want {
			t.Errorf("13.3: mode %d: %s, want %s", mode, got, want)
		}
	}
	for mode, want := range []string{"[1/1][2/2][5/5]", "", ""} { // for c the 4/4 stands between 2/2 and 5/5
		if got := ends(t, moded(query)[mode], log[:5]...); got != want {
			t.Errorf("13.3: mode %d: %s, want %s", mode, got, want)
		}
	}
}

// Promises 13.1 to 13.3: conditions that mention nothing, true, false and unknown.
func TestFixed(t *testing.T) {
	a := ev(1, 1, typeA)
	for where, want := range map[string]bool{
		"1 = 1": true, "1 = 2": false, "1 / 0 = 1": false, "NOT (1 / 0 = 1)": false, "1 / 0 = 1 OR TRUE": true,
		"TRUE AND 1 = 1": true, "TRUE AND FALSE": false, "FALSE AND TRUE": false, "TRUE AND 1 % 0 = 0": false, "1 % 0 = 0 AND TRUE AND TRUE": false, "TRUE AND TRUE AND FALSE": false,
	} {
		for mode, p := range moded("SEQ(A a) WHERE " + where + " WITHIN 9") {
			fits(t, p, []api.Event{a}, want, bind(a))
			if got := ends(t, p, a); (got == "[1/1]") != want {
				t.Errorf("13.3: %s, mode %d: %s", where, mode, got)
			}
		}
	}
}

// Promises 13.1 to 13.3: conditions that are true, false and unknown, at each component; that go through a list event by event; that mention components on both sides.
func TestConditions(t *testing.T) {
	log := []api.Event{ev(1, 1, typeA, 2, 1), ev(2, 2, typeB, 3, 1), ev(3, 3, typeB, 5, 0), ev(4, 4, typeB, 4, 2), ev(5, 5, typeC, 2)}
	a, b, c, d, e := log[0], log[1], log[2], log[3], log[4]
	all := []api.Binding{{{a}, {b}, {e}}, {{a}, {c}, {e}}, {{a}, {d}, {e}}, {{a}, {b, c}, {e}}, {{a}, {b, d}, {e}}, {{a}, {c, d}, {e}}, {{a}, {b, c, d}, {e}}}
	for where, want := range map[string][]int{
		"TRUE":                               {0, 1, 2, 3, 4, 5, 6},
		"b.x > 3":                            {1, 2, 5},
		"a.x = 2":                            {0, 1, 2, 3, 4, 5, 6},
		"c.k = 1":                            {},
		"a.x / c.k = 1":                      {0, 1, 2, 3, 4, 5, 6},
		"a.x / (c.k - 2) = 1":                {}, // unknown
		"NOT (a.x / (c.k - 2) = 1)":          {},
		"a.x / b.k = 2":                      {0},
		"a.x / b.k > 0":                      {0, 2, 4},
		"NOT (a.x / b.k = 1)":                {0},
		"a.x / b.k > 0 OR b.k = 0":           {0, 1, 2, 3, 4, 5, 6},
		"b.k >= c.k - 1":                     {0, 2, 4},
		"b.k + a.k + c.k = 4":                {0},
		"b.x > PREV(b.x)":                    {0, 1, 2, 3, 4},
		"b.x < PREV(b.x)":                    {0, 1, 2, 5},
		"a.x / (b.k - PREV(b.k)) > 0":        {0, 1, 2, 4, 5},
		"b.x + c.k > PREV(b.x) + a.x + 1":    {0, 1, 2, 3},
		"SUM(b.x) = 8":                       {3},
		"SUM(b.x) + a.x > 9 AND b.k < c.k":   {3},
		"COUNT(b) = c.k":                     {3, 4, 5},
		"COUNT(b) > a.k + COUNT(c)":          {6},
		"b.x < MAX(b.x) + a.x - c.k":         {},
		"b.x = MIN(b.x) AND b.x = LAST(b.x)": {0, 1, 2},
		"FIRST(b.x) < LAST(b.x) AND c.k = 2": {3, 4, 6},
		"SUM(b.k) / COUNT(a) = 1":            {0, 3},
		"a.ts + 3 < b.ts OR COUNT(b) = 3":    {6},
		"b.x < SUM(b.x)":                     {3, 4, 5, 6}, // not true of the end of a list, true of the whole
		"b.x < COUNT(b) + 3":                 {0, 4, 6},
		"b.x >= MIN(b.x) + a.x OR b.x = 3":   {0, 3},
		"b.x < MAX(b.x) OR b.x = 5":          {1, 3, 5, 6},
		"b.x < FIRST(b.x) OR b.x = 5":        {1, 5},
		"b.x < LAST(b.x) + COUNT(c) + a.k":   {0, 1, 2, 3, 4, 5, 6},
		"PREV(b.x) < SUM(b.x) - 5":           {0, 1, 2, 6},
		"b.ts + 2 <= c.ts":                   {0, 1, 3},
	} {
		for mode, p := range moded("SEQ(A a, B+ b, C c) WHERE " + where + " WITHIN 9") {
			var found []api.Binding
			for i, x := range all {
				stands := slices.Contains(want, i) && mode == 0
				if mode == 0 {
					fits(t, p, log, stands, x)
				}
				if stands {
					found = append(found, x)
				}
			}
			slices.SortFunc(found, secondOf(p).order)
			if got := ends(t, p, log...); mode == 0 && got != told(found...) {
				t.Errorf("13.3: %s: %s, want %s", where, got, told(found...))
			}
		}
	}
}

// Promises 13.1 to 13.3: negations that lead, that stand between and that trail, and two beside each other: one event of the item, at each place around the binding.
func TestNegations(t *testing.T) {
	a, b := ev(10, 5, typeA, 1, 1), ev(13, 5, typeB, 1, 2)
	places := []api.Name{{Ts: 7, Id: 9}, {Ts: 8, Id: 0}, {Ts: 10, Id: 4}, {Ts: 10, Id: 6}, {Ts: 13, Id: 4}, {Ts: 13, Id: 6}, {Ts: 15, Id: 9}, {Ts: 16, Id: 0}}
	for query, kills := range map[string][]int{
		"SEQ(!D n, A a, B b) WITHIN 5":                                 {1, 2},
		"SEQ(A a, !D n, B b) WITHIN 5":                                 {3, 4},
		"SEQ(A a, B b, !D n) WITHIN 5":                                 {},
		"SEQ(!D n, !C m, A a, B b) WITHIN 5":                           {1, 2},
		"SEQ(!C m, !D n, A a, B b) WITHIN 5":                           {1, 2},
		"SEQ(A a, !D n, !C m, B b) WITHIN 5":                           {3, 4},
		"SEQ(A a, !C m, !D n, B b) WITHIN 5":                           {3, 4},
		"SEQ(!D m, A a, !(C|D) n, B b, !D o) WITHIN 5":                 {1, 2, 3, 4},
		"SEQ(!D m, A a, !(C|D) n, B b, !D o) WITHIN 4":                 {2, 3, 4},
		"SEQ(!D m, A a, B b, !D n) WHERE m.x = 1 WITHIN 5":             {},
		"SEQ(!D m, A a, B b, !D n) WHERE m.x = 2 WITHIN 5":             {1, 2},
		"SEQ(!D m, A a, !D n, B b) WHERE m.x > b.k WITHIN 5":           {3, 4},
		"SEQ(!D m, A a, !D n, B b) WHERE n.x > a.k + b.x WITHIN 5":     {1, 2},
		"SEQ(!D m, A a, !D n, B b) WHERE 2 / (n.x - b.k) = 1 WITHIN 5": {1, 2}, // unknown: it kills nothing
		"SEQ(A a, !D n, B+ b) WHERE n.x = COUNT(b) + a.x WITHIN 5":     {3, 4},
	} {
		for i, at := range places {
			log := []api.Event{a, b, ev(at.Ts, at.Id, typeD, 2)}
			slices.SortFunc(log, func(e, f api.Event) int { return event.Compare(e.Name(), f.Name()) })
			p := made(query)
			want := !slices.Contains(kills, i)
			fits(t, p, log, want, bind(a, b))
			upTo := slices.Index(log, b) + 1
			if got := ends(t, p, log[:upTo]...); (got == "[10/5][13/5]") != want {
				t.Errorf("13.3: %s with an event at %d/%d: %s", query, at.Ts, at.Id, got)
			}
		}
	}
}

// A negation that leads asks the window from the last event back, be the first one where it may; at the ends of int64 nothing wraps round.
func TestNegationsAtTheEnds(t *testing.T) {
	for _, ts := range wildTimes {
		if ts > math.MaxInt64-9 {
			continue
		}
		n, a, b := ev(ts, 0, typeD), ev(ts+1, 0, typeA), ev(ts+4, 0, typeB)
		for window := int64(3); window < 7; window++ {
			p := made("SEQ(!D n, A a, B b) WITHIN " + fmt.Sprint(window))
			fits(t, p, []api.Event{n, a, b}, window < 4, bind(a, b))
			ends(t, p, n, a, b)
		}
	}
}

// Promise 13.2: Each stops when it is told to, and yields no more; gone through again it begins anew.
func TestStops(t *testing.T) {
	for _, p := range moded("SEQ(A+ a, !C m, (A|B)+ b, !D n) WITHIN 99") {
		f := open(p)
		for i := range int64(6) {
			f.add(ev(i, 0, typeA))
		}
		all := f.each()
		if n := len(all); n != len(f.all()) || n < 3 {
			t.Fatalf("13.2: %s", told(all...))
		}
		walk := hunt.Each(p, f.s, f.g)
		for most := range len(all) + 2 {
			seen := 0
			walk(func(b api.Binding) bool {
				if seen++; seen > max(most, 1) {
					t.Fatalf("13.2: told to stop behind %d, %d are yielded", most, seen)
				}
				if told(b) != told(all[seen-1]) {
					t.Errorf("13.2: gone through again: %s, want %s", told(b), told(all[seen-1]))
				}
				return seen < most
			})
			if want := min(max(most, 1), len(all)); seen != want {
				t.Errorf("13.2: told to stop behind %d, %d are yielded", most, seen)
			}
			var ranged []api.Binding
			for b := range walk {
				if len(ranged) == most {
					break
				}
				ranged = append(ranged, b)
			}
			if !same(ranged, all[:min(most, len(all))]) {
				t.Errorf("13.2: ranged over up to %d: %s", most, told(ranged...))
			}
		}
		finds(t, "stopped often", f, f.all()...)
	}
}

// Promise 13.2: two walks of the same stacks in turns, and one within the other.
func TestWalksInTurns(t *testing.T) {
	for _, p := range moded("SEQ(A+ a, (A|B)+ b) WHERE a.x >= PREV(a.x) WITHIN 99") {
		f := open(p)
		for i := range int64(6) {
			f.add(ev(i, 0, typeA, i%4))
		}
		all := f.each()
		walk := hunt.Each(p, f.s, f.g)
		one, stopOne := iter.Pull(walk)
		other, stopOther := iter.Pull(walk)
		third, stopThird := iter.Pull(hunt.Each(p, f.s, f.g))
		for i := range len(all) + 1 {
			for j, next := range []func() (api.Binding, bool){one, other, third} {
				if j == 2 && i > len(all)/2 { // it was stopped
					continue
				}
				b, ok := next()
				if ok != (i < len(all)) || ok && told(b) != told(all[i]) {
					t.Fatalf("13.2: walk %d, the binding %d: %s", j, i, told(b))
				}
				scrawl(b)
			}
			if i == len(all)/2 {
				stopThird()
			}
		}
		stopOne()
		stopOther()
		count := 0
		for b := range walk {
			for c := range walk {
				if told(b) == told(c) {
					count++
				}
			}
		}
		if count != len(all) {
			t.Errorf("13.2: one within the other: %d, want %d", count, len(all))
		}
	}
}

// Promise 13.4: bindings that stand, such as do not, and such as are not asked for.
func TestFinish(t *testing.T) {
	finish := func(p api.Plan, b api.Binding, want string) {
		t.Helper()
		for range 2 {
			if got := fmt.Sprint(hunt.Finish(p, b)); got != want {
				t.Errorf("13.4: Finish(%s): %s, want %s", told(b), got, want)
			}
		}
	}
	a, b, c, d := ev(1, 9, typeA, 4, 1), ev(2, 8, typeA, 5, 0), ev(3, 7, typeB, 6, 2), ev(4, 6, typeC, 3)
	const returns = " RETURN SUM(a.x), c.x / 0, COUNT(a), c.k + c.ts, c.x / (c.k - 2), 7"
	p := made("SEQ(A+ a, B c) WITHIN 10" + returns)
	trail := made("SEQ(A+ a, B c, !C n) WHERE n.k = 1 WITHIN 10" + returns)
	lead := made("SEQ(!C m, A+ a, !D n, B c) WITHIN 10" + returns)
	const vals = "[{true 9} {false 0} {true 2} {true 5} {false 0} {true 7}]}"
	finish(p, api.Binding{{a, b}, {c}}, "{3 [{1 9} {2 8} {3 7}] [2 1] "+vals)
	finish(trail, api.Binding{{a, b}, {c}}, "{11 [{1 9} {2 8} {3 7}] [2 1] "+vals)
	finish(lead, api.Binding{{a, b}, {c}}, "{3 [{1 9} {2 8} {3 7}] [2 1] "+vals)
	// What does not stand: wrong types, too many, out of their order, twice the same.
	finish(p, api.Binding{{d}, {a, a, b, c, a}}, "{1 [{4 6} {1 9} {1 9} {2 8} {3 7} {1 9}] [1 5] [{false 0} {false 0} {true 1} {true 2} {true -4} {true 7}]}")
	finish(trail, api.Binding{{d, a}, {b}}, "{14 [{4 6} {1 9} {2 8}] [2 1] [{false 0} {false 0} {true 2} {true 2} {true -2} {true 7}]}")
	for _, p := range []api.Plan{p, trail, lead} {
		for _, b := range []api.Binding{nil, {}, {{a}}, {{a}, {}}, {nil, {c}}, {{}, {}}, {{a}, {c}, {c}}, {{a}, {c}, {}}} {
			finish(p, b, "{0 [] [] []}")
		}
	}
	plain := made("SEQ(A+ a, A b) WITHIN 9")
	finish(plain, api.Binding{{a}, {b}}, "{2 [{1 9} {2 8}] [1 1] []}")
	one, other := hunt.Finish(plain, api.Binding{{a, b}, {c}}), hunt.Finish(plain, api.Binding{{a}, {b, c}})
	if !slices.Equal(one.Names, other.Names) || !other.Before(one) || one.Before(other) {
		t.Errorf("13.4: the same names, unlike lengths: %+v, %+v", one, other)
	}
}

// Promise 13.4: Decide at the ends of the safe range.
func TestDecide(t *testing.T) {
	for _, ts := range []int64{api.MinTs, api.MinTs + 1, 0, api.MaxTs - 1, api.MaxTs} {
		for _, window := range []int64{0, 1, api.MaxWindow} {
			for query, more := range map[string]int64{"SEQ(A a, A b, !A n) WITHIN ": window, "SEQ(!A m, A a, A b, !B n, !C o) WITHIN ": window, "SEQ(!A m, A a, !A n, A b) WITHIN ": 5, "SEQ(A a, A b) WITHIN ": 5} {
				b := bind(ev(ts, 1, typeA), ev(ts+5, 0, typeA))
				if got := hunt.Finish(made(query+fmt.Sprint(window)), b).Decide; got != ts+more {
					t.Errorf("13.4: %s%d: from %d on: %d", query, window, ts, got)
				}
			}
		}
	}
}

// Promise 13.4 of scattered bindings, against the second answer.
func TestFinishOfMany(t *testing.T) {
	pick := scatter(5)
	unknown := 0
	for _, query := range queries {
		for _, p := range moded(query) {
			for range 100 {
				log := drawLog(pick, p, 12, -9)
				var b api.Binding
				for range p.Comps {
					var l []api.Event
					for range 1 + pick(4) {
						l = append(l, log[pick(len(log))])
					}
					b = append(b, l)
				}
				got, want := hunt.Finish(p, b), secondOf(p).match(b)
				if fmt.Sprint(got) != fmt.Sprint(want) {
					t.Fatalf("13.4: %s: Finish(%s): %+v, want %+v", query, told(b), got, want)
				}
				if slices.Contains(got.Vals, api.Val{}) {
					unknown++
				}
			}
		}
	}
	if unknown < 50 {
		t.Errorf("13.4: %d matches with an unknown result", unknown)
	}
}

// Promise 13.3: the order, where the binding's first event decides and where its last one does, and where the lengths do.
func TestOrder(t *testing.T) {
	for _, query := range []string{"SEQ(A+ a, A+ b, !B n) WITHIN 20", "SEQ(A+ a, A+ b) WITHIN 20", "SEQ(!B n, A+ a, A+ b, A+ c) WITHIN 20"} {
		p := made(query)
		f := open(p)
		for i := range int64(7) {
			f.add(ev(i/2, uint64(i%2*5), typeA))
		}
		all := f.all()
		for i := 1; i < len(all); i++ {
			one, other := hunt.Finish(p, all[i-1]), hunt.Finish(p, all[i])
			if !one.Before(other) || secondOf(p).order(all[i-1], all[i]) >= 0 {
				t.Fatalf("13.3: %s: %s ahead of %s", query, told(all[i-1]), told(all[i]))
			}
		}
		if want := secondOf(p).completed(f.s.Log()); !same(all, want) {
			t.Errorf("13.3: %s: %d, want %d", query, len(all), len(want))
		}
	}
	if plan.InStream(made(chapter), ev(0, 0, typeC)) {
		t.Error("a C is in the stream of the chapter's query")
	}
}

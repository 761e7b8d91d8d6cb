package meaning_test

import (
	"fmt"
	"slices"
	"strings"
	"testing"

	"sluice/api"
	"sluice/event"
	"sluice/meaning"
	"sluice/parse"
)

const schema = "type Order(acct, qty) type Cancel(acct) type Ship(acct, qty)"

func schemaOf(t *testing.T) api.Schema {
	t.Helper()
	s, code, _ := event.ParseSchema(schema)
	if code != api.OK {
		t.Fatal("no schema")
	}
	return s
}

func queryOf(t *testing.T, text string) api.Query {
	t.Helper()
	q, _, code, at := parse.Parse("PATTERN " + text)
	if code != api.OK {
		t.Fatalf("no query: %s: %d at %d", text, int(code), at)
	}
	return q
}

// eventsOf: lines, cut by semicolons.
func eventsOf(t *testing.T, text string) []api.Event {
	t.Helper()
	var out []api.Event
	for line := range strings.SplitSeq(text, ";") {
		e, code, at := event.ParseEvent(schemaOf(t), strings.TrimSpace(line))
		if code != api.OK {
			t.Fatalf("no event: %s: %d at %d", line, int(code), at)
		}
		out = append(out, e)
	}
	return out
}

// spelt: a match as the document writes it, less the word match.
func spelt(q api.Query, m api.Match) string {
	var out strings.Builder
	fmt.Fprint(&out, m.Decide)
	at, comp := 0, 0
	for _, item := range q.Items {
		if item.Neg {
			continue
		}
		var names []string
		for range m.Lens[comp] {
			names = append(names, fmt.Sprintf("%d/%d", m.Names[at].Ts, m.Names[at].Id))
			at++
		}
		fmt.Fprintf(&out, " %s=%s", item.Var, strings.Join(names, ","))
		comp++
	}
	for i, v := range m.Vals {
		if i == 0 {
			fmt.Fprint(&out, " ->")
		}
		fmt.Fprint(&out, " ", v.N)
	}
	return out.String()
}

// reversed and as it stands: in which order the events are handed in does not count.
func tells(t *testing.T, query, events, want string) {
	t.Helper()
	q, a := queryOf(t, query), eventsOf(t, events)
	m := meaning.Of(schemaOf(t), q)
	for range 2 {
		var got []string
		for _, x := range m.Told(a, m.Matches(a), nil) {
			got = append(got, spelt(q, x))
		}
		if text := strings.Join(got, "; "); text != want {
			t.Errorf("%s: %s: %q, want %q", query, events, text, want)
		}
		slices.Reverse(a)
	}
}

// The document's examples, by their numbers.
func TestExamples(t *testing.T) {
	const three = "1 1 Order 0 0; 2 2 Order 0 0; 3 3 Order 0 0"
	for _, c := range []struct{ query, events, want string }{
		{"SEQ(Order o, Ship s) WHERE o.acct = s.acct WITHIN 10", "15 2 Ship 7 3; 10 1 Order 7 3; 12 3 Order 8 1", "15 o=10/1 s=15/2"},                       // 1
		{"SEQ(Order o, Ship s) WHERE o.acct = s.acct WITHIN 10", "10 1 Order 7 3; 21 2 Ship 7 3", ""},                                                       // 2
		{"SEQ(Order o, Ship s) WHERE o.acct = s.acct WITHIN 10", "10 1 Order 7 3; 20 2 Ship 7 3", "20 o=10/1 s=20/2"},                                       // 2
		{"SEQ(Order a, Order b) WITHIN 100", three, "2 a=1/1 b=2/2; 3 a=1/1 b=3/3; 3 a=2/2 b=3/3"},                                                          // 3
		{"SEQ(Order a, Order b) USING NEXT WITHIN 100", three, "2 a=1/1 b=2/2; 3 a=2/2 b=3/3"},                                                              // 3
		{"SEQ(Order a, Order b) USING STRICT WITHIN 100", three, "2 a=1/1 b=2/2; 3 a=2/2 b=3/3"},                                                            // 3
		{"SEQ(Order a, Ship b) USING STRICT WITHIN 100", "1 1 Order 0 0; 2 2 Order 0 0; 2 9 Cancel 0; 3 3 Ship 0 0", "3 a=2/2 b=3/3"},                       // 4
		{"SEQ(Order a, Ship b) USING NEXT WITHIN 100", "1 1 Order 0 0; 2 2 Order 0 0; 3 3 Ship 0 0", "3 a=1/1 b=3/3; 3 a=2/2 b=3/3"},                        // 4
		{five, "1 1 Order 7 0; 2 2 Cancel 8; 3 3 Ship 7 0", "3 o=1/1 s=3/3"},                                                                                // 5
		{five, "1 1 Order 7 0; 2 2 Cancel 7; 3 3 Ship 7 0", ""},                                                                                             // 5
		{six, "5 1 Order 7 0; 15 2 Ship 7 0", ""},                                                                                                           // 6
		{six, "5 1 Order 7 0; 15 2 Ship 8 0; 16 2 Ship 7 0; 5 0 Ship 7 0", "15 o=5/1"},                                                                      // 6
		{"SEQ(!Cancel c, Order o) WITHIN 10", "2 1 Cancel 0; 12 2 Order 0 0; 13 3 Order 0 0; 13 4 Cancel 0", "13 o=13/3"},                                   // 7
		{eight, "1 1 Order 0 2; 2 2 Order 0 1; 3 3 Order 0 3; 4 4 Ship 0 5", "4 a=1/1,3/3 s=4/4 -> 2 2"},                                                    // 8
		{"SEQ(Order a) WHERE a.qty / a.acct = 1 OR a.acct = 0 WITHIN 0", "1 1 Order 0 4", "1 a=1/1"},                                                        // 9
		{"SEQ(Order a) WHERE NOT (a.qty / a.acct = 1) WITHIN 0", "1 1 Order 0 4", ""},                                                                       // 9
		{"SEQ(Order a, Order b) AFTER NEXT WITHIN 100", three, "2 a=1/1 b=2/2; 3 a=2/2 b=3/3"},                                                              // 10
		{"SEQ(Order a, Order b) AFTER PAST WITHIN 100", three, "2 a=1/1 b=2/2"},                                                                             // 10
		{"SEQ(Order a, Order b) AFTER ONCE WITHIN 100", three, "2 a=1/1 b=2/2"},                                                                             // 10
		{"SEQ(Order a, Order b) AFTER PAST WITHIN 100", three + "; 4 4 Order 0 0", "2 a=1/1 b=2/2; 4 a=3/3 b=4/4"},                                          // 10
		{"SEQ(Order+ a, Order+ b) WITHIN 9", three, "2 a=1/1 b=2/2; 3 a=1/1 b=2/2,3/3; 3 a=1/1,2/2 b=3/3; 3 a=1/1 b=3/3; 3 a=2/2 b=3/3"},                    // 11
		{"SEQ(Order a, Ship b) AFTER ONCE WITHIN 9 PARTITION BY acct", "1 1 Order 1 0; 2 2 Order 2 0; 3 3 Ship 1 0", "3 a=1/1 b=3/3"},                       // rule 3
		{"SEQ(Order a{2,2}, Ship b) USING NEXT WHERE a.qty = 1 WITHIN 9", "1 1 Order 0 1; 2 2 Order 0 2; 3 3 Order 0 1; 4 4 Ship 0 0", "4 a=1/1,3/3 b=4/4"}, // rule 6: with an own filter
	} {
		tells(t, c.query, c.events, c.want)
	}
}

const (
	five  = "SEQ(Order o, !Cancel c, Ship s) WHERE o.acct = s.acct AND c.acct = o.acct WITHIN 50 PARTITION BY acct"
	six   = "SEQ(Order o, !Ship s) WHERE s.acct = o.acct WITHIN 10"
	eight = "SEQ(Order+ a, Ship s) WHERE a.qty > PREV(a.qty) AND SUM(a.qty) = s.qty WITHIN 100 RETURN COUNT(a), FIRST(a.qty)"
)

// The used names, with and without such as the clause begins with, at marks at which they drop out.
func TestUsed(t *testing.T) {
	a := eventsOf(t, "1 1 Order 1 0; 2 2 Order 1 0; 3 3 Order 1 0; 4 4 Order 1 0; 4 5 Order 2 0")
	for _, c := range []struct {
		after string
		mark  int64
		begun []api.Name
		told  int
		want  string
	}{
		{"ALL", 4, nil, 6, "[]"},
		{"NEXT", 4, nil, 3, "[{1 1} {2 2} {3 3}]"},
		{"NEXT", 10, nil, 3, "[{2 2} {3 3}]"},
		{"NEXT", 4, []api.Name{{Ts: 2, Id: 2}}, 2, "[{1 1} {2 2} {3 3}]"},
		{"PAST", 4, nil, 2, "[{4 4}]"},
		{"PAST", 13, nil, 2, "[]"},
		{"PAST", 4, []api.Name{{Ts: 2, Id: 2}, {Ts: 4, Id: 5}}, 1, "[{4 4} {4 5}]"},
		{"PAST", 4, []api.Name{{Ts: 3, Id: 3}}, 0, "[{3 3}]"},
		{"ONCE", 4, nil, 2, "[{1 1} {2 2} {3 3} {4 4}]"},
		{"ONCE", 11, []api.Name{{Ts: 2, Id: 2}}, 1, "[{3 3}]"},
	} {
		m := meaning.Of(schemaOf(t), queryOf(t, "SEQ(Order a, Order b) AFTER "+c.after+" WITHIN 9 PARTITION BY acct"))
		told := m.Told(a, m.Matches(a), c.begun)
		if got := fmt.Sprint(m.Used(a, told, c.begun, c.mark)); len(told) != c.told || got != c.want {
			t.Errorf("AFTER %s, beginning with %v, at %d: %d are told, used: %s", c.after, c.begun, c.mark, len(told), got)
		}
	}
}

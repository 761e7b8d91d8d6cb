package check_test

import (
	"fmt"
	"math"
	"strings"
	"testing"

	"sluice/api"
	"sluice/check"
	"sluice/event"
	"sluice/parse"
)

// schemaOf: the schema of a text that is one.
func schemaOf(text string) api.Schema {
	s, code, at := event.ParseSchema(text)
	if code != api.OK {
		panic(fmt.Sprint(text, code, at))
	}
	return s
}

// queryOf: the query of a text that is one but for the word PATTERN ahead of it.
func queryOf(text string) api.Query {
	q, _, code, at := parse.Parse("PATTERN " + text)
	if code != api.OK {
		panic(fmt.Sprintf("%q: %d at %d", text, int(code), at))
	}
	return q
}

// treeOf: the tree of a text that is an expression.
func treeOf(text string) []api.Node {
	t, _, code, at := parse.Expr(text)
	if code != api.OK {
		panic(fmt.Sprintf("%q: %d at %d", text, int(code), at))
	}
	return t
}

// plain: the schema of the chapter's examples.
const plain = "type A(x, k) type B(x) type C(k)"

// none: nothing is wrong.
var none = api.Flaw{}

func inItem(code api.Errno, number int) api.Flaw {
	return api.Flaw{Code: code, Part: api.PartItem, Index: number}
}

func inWhere(code api.Errno, at int) api.Flaw {
	return api.Flaw{Code: code, Part: api.PartWhere, Index: at}
}

func inResult(code api.Errno, number, at int) api.Flaw {
	return api.Flaw{Code: code, Part: api.PartReturn, Index: number, Sub: at}
}

var (
	inWithin = api.Flaw{Code: api.ErrWithin, Part: api.PartWithin}
	inBy     = api.Flaw{Code: api.ErrPart, Part: api.PartBy}
)

// row: a query's text without PATTERN, its flaw, and what stands at the flaw's place.
type row struct {
	text string
	want api.Flaw
	word string
}

// expectRows holds Check against the rows, and Place with the spots that parse gives.
func expectRows(t *testing.T, schema string, rows []row) {
	t.Helper()
	s := schemaOf(schema)
	for _, r := range rows {
		text := "PATTERN " + r.text
		q, spots, code, at := parse.Parse(text)
		if code != api.OK {
			t.Errorf("%q: %d at %d", text, code, at)
			continue
		}
		got := check.Check(s, q)
		if got != r.want {
			t.Errorf("%q: %s, want %s", text, told(got), told(r.want))
		}
		place := check.Place(spots, r.want)
		if r.want == none {
			if place != 0 || r.word != "" {
				t.Errorf("%q: the place of no flaw is %d", text, place)
			}
			continue
		}
		if r.word == "" || !strings.HasPrefix(text[place:], r.word) {
			t.Errorf("%q: the place of %s is %d, want that of %q", text, told(r.want), place, r.word)
		}
	}
}

// told: a flaw as it is told in a failure.
func told(f api.Flaw) string {
	return fmt.Sprintf("{%d part %d index %d sub %d}", int(f.Code), f.Part, f.Index, f.Sub)
}

// The table of the chapter's section 'Examples', and what it says beside it.
func TestExamples(t *testing.T) {
	expectRows(t, plain, []row{
		{"SEQ(A a, B b) WHERE a.x = b.x WITHIN 5", none, ""},
		{"SEQ(A a, D d) WITHIN 5", inItem(api.ErrNoType, 1), "D d"},
		{"SEQ((A|A) a) WITHIN 5", inItem(api.ErrTypeTwice, 0), "(A|A)"},
		{"SEQ(A a {0, 2}, D a) WITHIN 5", inItem(api.ErrRep, 0), "A a"},
		{"SEQ(A a, B a) WITHIN 5", inItem(api.ErrVarTwice, 1), "B a"},
		{"SEQ(!A a, !B b) WITHIN 5", inItem(api.ErrNoPositive, 0), "!A a"},
		{"SEQ(A a) WHERE a.x = b.x WITHIN 5", inWhere(api.ErrNoVar, 1), "b.x"},
		{"SEQ((A|C) a) WHERE a.x = 1 WITHIN 5", inWhere(api.ErrNoAttr, 0), "a.x"},
		{"SEQ((A|C) a) WHERE a.k = 1 WITHIN 5", none, ""},
		{"SEQ(A a, !B b) WHERE COUNT(b) = 0 WITHIN 5", inWhere(api.ErrUse, 0), "COUNT"},
		{"SEQ(A a) WHERE PREV(a.x) = 1 WITHIN 5", inWhere(api.ErrUse, 0), "PREV"},
		{"SEQ(A+ a) WHERE PREV(a.x) = 1 WITHIN 5", none, ""},
		{"SEQ(A a) WHERE a.x + (a.x = 1) = 2 WITHIN 5", inWhere(api.ErrKind, 4), "+"},
		{"SEQ(A a) WHERE a.x WITHIN 5", inWhere(api.ErrKind, 0), "a.x"},
		{"SEQ(A a, !B b, !A c) WHERE a.x = 1 AND b.x = c.x WITHIN 5", inWhere(api.ErrMix, 5), "= c.x"},
		{"SEQ(A+ a, !B b) WHERE b.x = a.x WITHIN 5", inWhere(api.ErrMix, 2), "= a.x"},
		{"SEQ(A+ a, !B b) WHERE b.x = SUM(a.x) WITHIN 5", none, ""},
		{"SEQ(A+ a, B+ b) WHERE b.x = a.x WITHIN 5", inWhere(api.ErrMix, 2), "= a.x"},
		{"SEQ(A+ a, B+ b) WHERE b.x = LAST(a.x) WITHIN 5", none, ""},
		{"SEQ(A a, !B b) WITHIN 5 PARTITION BY k", inBy, "k"},
		{"SEQ(A a) WITHIN 5 PARTITION BY ts", inBy, "ts"},
		{"SEQ(A+ a) WITHIN 5 RETURN COUNT(a), a.x", inResult(api.ErrUse, 1, 0), "a.x"},
		{"SEQ(A a) WITHIN 5 RETURN a.x = 1", inResult(api.ErrKind, 0, 2), "= 1"},
	})
}

// The queries of the document's own examples are well formed.
func TestTheDocumentsQueries(t *testing.T) {
	var rows []row
	for _, text := range []string{
		"SEQ(Order o, Ship s) WHERE o.acct = s.acct WITHIN 10",
		"SEQ(Order a, Order b) WITHIN 100",
		"SEQ(Order a, Order b) AFTER PAST WITHIN 100",
		"SEQ(Order a, Ship b) USING STRICT WITHIN 100",
		"SEQ(Order o, !Cancel c, Ship s) WHERE o.acct = s.acct AND c.acct = o.acct WITHIN 50 PARTITION BY acct",
		"SEQ(Order o, !Ship s) WHERE s.acct = o.acct WITHIN 10",
		"SEQ(!Cancel c, Order o) WITHIN 10",
		"SEQ(Order+ a, Ship s) WHERE a.qty > PREV(a.qty) AND SUM(a.qty) = s.qty WITHIN 100 RETURN COUNT(a), FIRST(a.qty)",
		"SEQ(Order a) WHERE a.qty / a.acct = 1 OR a.acct = 0 WITHIN 0",
		"SEQ(Order a) WHERE NOT (a.qty / a.acct = 1) WITHIN 0",
		"SEQ(Order+ a, Order+ b) WITHIN 9",
	} {
		rows = append(rows, row{text, none, ""})
	}
	expectRows(t, "type Order(acct, qty) type Cancel(acct) type Ship(acct, qty)", rows)
}

// unsound: schemas that are none, and why.
func unsound() map[string]api.Schema {
	types := func(list ...api.TypeDef) api.Schema { return api.Schema{Types: list} }
	a := api.TypeDef{Name: "A", Attrs: []string{"x", "k"}}
	var many, wide []api.TypeDef
	for i := range api.MaxTypes + 1 {
		many = append(many, api.TypeDef{Name: fmt.Sprint("T", i)})
	}
	attrs := strings.Fields("a b c d e f g h i")
	wide = append(wide, a, api.TypeDef{Name: "W", Attrs: attrs})
	return map[string]api.Schema{
		"23 no types":       types(),
		"23 too many types": types(many...),
		"22 a type's name":  types(a, api.TypeDef{Name: "seq"}),
		"22 no name":        types(a, api.TypeDef{}),
		"22 ts":             types(a, api.TypeDef{Name: "B", Attrs: []string{"ts"}}),
		"22 an attribute":   types(a, api.TypeDef{Name: "B", Attrs: []string{"1"}}),
		"25 a type":         types(a, api.TypeDef{Name: "B"}, a),
		"25 an attribute":   types(a, api.TypeDef{Name: "B", Attrs: []string{"x", "y", "x"}}),
		"24 attributes":     types(wide...),
	}
}

// Rule 1: of a schema that is none nothing else is asked.
func TestSchemasThatAreNone(t *testing.T) {
	queries := []api.Query{{}, queryOf("SEQ(A a) WITHIN 5"), queryOf("SEQ(Q a, !Q a) WHERE 1 WITHIN 5"), queryOf("SEQ(A a) WHERE a.x WITHIN 5")}
	long := queryOf("SEQ(A a) WITHIN 5")
	for range 20 {
		long.Items = append(long.Items, long.Items[0])
	}
	queries = append(queries, long)
	codes := map[api.Errno]int{}
	for why, s := range unsound() {
		var code api.Errno
		fmt.Sscan(why, (*int)(&code))
		if event.CheckSchema(s) != code {
			t.Fatalf("%s: CheckSchema says %d", why, event.CheckSchema(s))
		}
		codes[code]++
		for _, q := range queries {
			if got := check.Check(s, q); got != (api.Flaw{Code: code}) {
				t.Errorf("rule 1: %s: %s", why, told(got))
			}
		}
	}
	if len(codes) != 4 {
		t.Errorf("rule 1: the codes of %d kinds of schemas, want 4", len(codes))
	}
}

// A schema with as much as may be is one like any other.
func TestTheGreatestSchema(t *testing.T) {
	var text string
	for i := range api.MaxTypes {
		text += fmt.Sprintf("type Type%d(a, b, c, d, e, f, g, h%d) ", i, i%2)
	}
	all := make([]string, api.MaxTypes)
	for i := range all {
		all[i] = fmt.Sprint("Type", i)
	}
	every := "(" + strings.Join(all, "|") + ")"
	expectRows(t, text, []row{
		{"SEQ(" + every + " v) WHERE v.g = v.ts WITHIN 5 PARTITION BY a RETURN v.g", none, ""},
		{"SEQ(" + every + " v) WHERE v.h0 = 1 WITHIN 5", inWhere(api.ErrNoAttr, 0), "v.h0"},
		{"SEQ(" + every + " v) WITHIN 5 PARTITION BY h1", inBy, "h1"},
		{"SEQ(Type15 v) WHERE v.h1 = 1 WITHIN 5 PARTITION BY h1", none, ""},
		{"SEQ((Type0|Type14) v) WHERE v.h0 = 1 WITHIN 5 PARTITION BY h0", none, ""},
		{"SEQ((Type0|Type15) v) WHERE v.h0 = 1 WITHIN 5 PARTITION BY h0", inWhere(api.ErrNoAttr, 0), "v.h0"},
		{"SEQ(Type0 u, Type15 v) WITHIN 5 PARTITION BY h0", inBy, "h0"},
		{"SEQ(" + strings.Replace(every, "Type7|", "Type8|", 1) + " v) WITHIN 5", inItem(api.ErrTypeTwice, 0), "(Type0"},
		{"SEQ(" + strings.Replace(every, "Type7|", "type7|", 1) + " v) WITHIN 5", inItem(api.ErrNoType, 0), "(Type0"},
	})
}

// Rule 2: a query that is not well shaped, whatever else is wrong with it.
func TestQueriesThatAreNotWellShaped(t *testing.T) {
	s := schemaOf(plain)
	whole := func() api.Query {
		return queryOf("SEQ(A a, !B n, A+ b) USING NEXT AFTER PAST WHERE a.x = n.x AND b.k > 1 WITHIN 5 PARTITION BY x RETURN a.x, COUNT(b) + 1")
	}
	if got := check.Check(s, whole()); got != none {
		t.Fatalf("%s", told(got))
	}
	for i, change := range []func(*api.Query){
		func(q *api.Query) { *q = api.Query{} },
		func(q *api.Query) { q.Items = nil },
		func(q *api.Query) { q.Items = []api.Item{} },
		func(q *api.Query) { q.Items[0].Types = nil },
		func(q *api.Query) { q.Items[0].Types = []string{"A", "no name"} },
		func(q *api.Query) { q.Items[0].Types = []string{"Seq"} },
		func(q *api.Query) { q.Items[2].Var = "" },
		func(q *api.Query) { q.Items[2].Var = "1a" },
		func(q *api.Query) { q.Items[2].Lo = -1 },
		func(q *api.Query) { q.Items[2].Hi = math.MinInt },
		func(q *api.Query) { q.Items[1].Lo = 0 },
		func(q *api.Query) { q.Items[1].Hi = 2 },
		func(q *api.Query) { q.Mode = 3 },
		func(q *api.Query) { q.Mode = -1 },
		func(q *api.Query) { q.After = 4 },
		func(q *api.Query) { q.Within = -1 },
		func(q *api.Query) { q.Within = math.MinInt64 },
		func(q *api.Query) { q.By = "by" },
		func(q *api.Query) { q.By = "x y" },
		func(q *api.Query) { q.Where = q.Where[1:] },
		func(q *api.Query) { q.Where[2].A = 1 },
		func(q *api.Query) { q.Where[0].Var = "all" },
		func(q *api.Query) { q.Where[4].N = -1 },
		func(q *api.Query) { q.Where[0].Op = 27 },
		func(q *api.Query) { q.Ret[0] = nil },
		func(q *api.Query) { q.Ret[1][2].B = 0 },
		func(q *api.Query) { q.Ret = append(q.Ret, []api.Node{}) },
	} {
		q := whole()
		change(&q)
		if got := check.Check(s, q); got != (api.Flaw{Code: api.ErrShape}) {
			t.Errorf("rule 2: row %d: %s", i, told(got))
		}
		q = whole()
		q.Within, q.By, q.Items[0].Types[0] = api.MaxWindow+1, "ts", "Q"
		for len(q.Items) <= api.MaxItems {
			q.Items = append(q.Items, q.Items[2])
		}
		change(&q)
		if got := check.Check(s, q); got != (api.Flaw{Code: api.ErrShape}) {
			t.Errorf("rule 2: row %d, with more that is wrong: %s", i, told(got))
		}
	}
}

package plan_test

import (
	"fmt"
	"testing"

	"sluice/api"
	"sluice/check"
	"sluice/code"
	"sluice/plan"
)

// homes: by place what stands there, in its order.
func homes(p api.Plan) map[string][]string {
	out := map[string][]string{}
	put := func(home string, list []api.Program) {
		for _, x := range list {
			out[home] = append(out[home], told(x))
		}
	}
	put("fixed", p.Fixed)
	for i, c := range p.Comps {
		put(fmt.Sprint("own ", i), c.Own)
		for _, x := range c.Conds {
			home := fmt.Sprint("conds ", i)
			out[home] = append(out[home], told(x))
		}
	}
	for i, n := range p.Negs {
		put(fmt.Sprint("guard ", i), n.Own)
		put(fmt.Sprint("rest ", i), n.Rest)
	}
	return out
}

// home: where a conjunct goes: its place, and for conditions what they go through.
type home struct {
	place string
	each  int
	prev  bool
}

func at(place string) home               { return home{place: place} }
func cond(comp, each int) home           { return home{place: fmt.Sprint("conds ", comp), each: each} }
func condPrev(comp, each int) home       { return home{fmt.Sprint("conds ", comp), each, true} }
func (h home) isCond() bool              { return h.place[0] == 'c' }
func (h home) of(p api.Program) api.Cond { return api.Cond{Prog: p, Each: h.each, Prev: h.prev} }

// expectHomes holds the places of a query's conjuncts against those that are wanted, from left to right.
func expectHomes(t *testing.T, text string, want ...home) {
	t.Helper()
	s, q := schemaOf(plain), queryOf(text)
	p, flaw := plan.Build(s, q)
	roots := check.Conjuncts(q.Where)
	if flaw != (api.Flaw{}) || len(roots) != len(want) {
		t.Fatalf("8.2: %s has %d conjuncts and the flaw %+v", text, len(roots), flaw)
	}
	places := map[string][]string{}
	for i, h := range want {
		program := code.Compile(s, q, check.Sub(q.Where, roots[i]))
		if len(program.Code) == 0 {
			t.Fatalf("8.2: %s: conjunct %d has no program", text, i)
		}
		said := told(program)
		if h.isCond() {
			said = told(h.of(program))
		}
		places[h.place] = append(places[h.place], said)
	}
	if got := homes(p); told(got) != told(places) {
		t.Errorf("8.2: %s: %v, want %v", text, got, places)
	}
}

// Promise 8.2: the chapter's examples.
func TestConjunctsAsWritten(t *testing.T) {
	expectHomes(t, "SEQ(A a, B b) WHERE a.x = 1 AND b.x > a.x AND 2 > 1", at("own 0"), cond(0, -1), at("fixed"))
	expectHomes(t, "SEQ(A a, B+ b) WHERE b.x = 1 AND b.x > PREV(b.x) AND b.x >= a.x AND SUM(b.x) = 9 AND b.x < MAX(b.x)",
		at("own 1"), condPrev(1, 1), cond(0, 1), cond(1, -1), cond(1, 1))
	expectHomes(t, "SEQ(A a, !B n) WHERE n.x = 1 AND n.k = a.k AND COUNT(a) < n.x", at("guard 0"), at("rest 0"), at("rest 0"))
	expectHomes(t, "SEQ(A a) WHERE a.x = 1 OR COUNT(a) = 2", cond(0, -1))
}

// Promise 8.2: rule by rule, at its edges.
func TestConjuncts(t *testing.T) {
	expectHomes(t, "SEQ(A a, !B n)")

	// What mentions nothing.
	expectHomes(t, "SEQ(A a) WHERE TRUE", at("fixed"))
	expectHomes(t, "SEQ(A a, !B n) WHERE FALSE AND a.x = 1 AND 1 = 2 AND NOT TRUE AND n.x = 1 AND 1 / 0 = 1", at("fixed"), at("own 0"), at("fixed"), at("fixed"), at("guard 0"), at("fixed"))

	// What mentions a negated item: alone, often, by ts, with another item ahead of it or behind it, with aggregates, with several.
	expectHomes(t, "SEQ(A a, !B n, C c) WHERE n.x = 1 AND n.x = n.k AND n.ts > 5 AND NOT (n.x = 1 OR n.k = 2)", at("guard 0"), at("guard 0"), at("guard 0"), at("guard 0"))
	expectHomes(t, "SEQ(A a, !B n, C c) WHERE n.x = a.x AND a.x = n.x AND n.k = c.k AND c.k = n.k AND a.x + c.k = n.x", at("rest 0"), at("rest 0"), at("rest 0"), at("rest 0"), at("rest 0"))
	expectHomes(t, "SEQ(A a, !B n, C+ c) WHERE n.x = COUNT(a) AND SUM(c.k) = n.x AND a.x = n.x + LAST(c.k) AND n.x = COUNT(a) + COUNT(c)", at("rest 0"), at("rest 0"), at("rest 0"), at("rest 0"))
	expectHomes(t, "SEQ(!B m, A a, !B n, !C o) WHERE o.k = 1 AND n.x = 2 AND m.x = 3 AND o.k = a.k AND m.x = a.x AND n.k = a.k AND a.x = 1", at("guard 2"), at("guard 1"), at("guard 0"), at("rest 2"), at("rest 0"), at("rest 1"), at("own 0"))

	// Own filters: of single items, of repeated ones, with several mentions.
	expectHomes(t, "SEQ(A a, B+ b, C c) WHERE c.k = 1 AND b.x = b.k AND a.x = 1 AND a.k != 0 AND b.ts > 1 AND (c.k = 1 OR c.ts = 2)", at("own 2"), at("own 1"), at("own 0"), at("own 0"), at("own 1"), at("own 2"))

	// Conditions: an aggregate alone, one beside the same item, one of several items, of a single item too.
	expectHomes(t, "SEQ(A a, B+ b, C c) WHERE COUNT(c) = 1 AND SUM(b.x) = 1 AND COUNT(b) > COUNT(c) AND MIN(c.k) > FIRST(a.x)", cond(2, -1), cond(1, -1), cond(1, -1), cond(0, -1))
	expectHomes(t, "SEQ(A a, B+ b, C c) WHERE c.k = COUNT(c) AND b.x = COUNT(b) AND a.x = COUNT(c) AND c.k = COUNT(a) AND c.k = COUNT(b) AND b.x = COUNT(c)", cond(2, -1), cond(1, 1), cond(0, -1), cond(0, -1), cond(1, -1), cond(1, 1))

	// Conditions with PREV, alone and beside others.
	expectHomes(t, "SEQ(A a, B+ b, C c) WHERE PREV(b.x) = 1 AND PREV(b.x) = b.x AND PREV(b.x) = a.x AND c.k = PREV(b.x) AND PREV(b.x) = COUNT(b) AND PREV(b.x) < COUNT(a) AND PREV(b.ts) + PREV(b.x) = COUNT(c)",
		condPrev(1, 1), condPrev(1, 1), condPrev(0, 1), condPrev(1, 1), condPrev(1, 1), condPrev(0, 1), condPrev(1, 1))

	// A repeated item and a plain one, in either order, of the items and of the mentions.
	expectHomes(t, "SEQ(A a, B+ b) WHERE a.x = b.x AND b.x = a.x", cond(0, 1), cond(0, 1))
	expectHomes(t, "SEQ(B+ b, A a) WHERE a.x = b.x AND b.x = a.x", cond(0, 0), cond(0, 0))
	expectHomes(t, "SEQ(A a, B b, C c) WHERE c.k = b.x AND b.x = c.k AND a.x = b.x + c.k AND c.k = a.x", cond(1, -1), cond(1, -1), cond(0, -1), cond(0, -1))
	expectHomes(t, "SEQ(A+ a, B+ b) WHERE a.x = LAST(b.x) AND FIRST(a.x) = b.x AND b.x = SUM(a.x) + PREV(b.k) AND COUNT(a) = COUNT(b)", cond(0, 0), cond(0, 1), condPrev(0, 1), cond(0, -1))
	expectHomes(t, "SEQ(A a, B b{2,2}, B c{1,2}, B d{1,1}) WHERE b.x = a.x AND c.x = a.x AND d.x = a.x", cond(0, 1), cond(0, 2), cond(0, -1))

	// Behind negated items a component's number and its item's are not the same.
	expectHomes(t, "SEQ(!C l, A a, !C m, B+ b, !C n, B c) WHERE b.x = c.x AND b.x > PREV(b.x) AND c.x = 1 AND a.x = b.x AND c.k = COUNT(b) AND n.k = c.x AND m.k = 1 AND COUNT(c) = 1 AND l.k = LAST(b.k) AND b.x = 0",
		cond(1, 3), condPrev(1, 3), at("own 2"), cond(0, 3), cond(1, -1), at("rest 2"), at("guard 1"), cond(2, -1), at("rest 0"), at("own 1"))

	// Several at one place, in their order, however they are bracketed; what stands below an OR or a NOT is one conjunct.
	expectHomes(t, "SEQ(A a, B b) WHERE (a.x = 3 AND (a.x = 2 AND b.x = 1)) AND ((a.x = 1 AND b.x = a.x) AND (b.k = a.k AND a.x = 3))", at("own 0"), at("own 0"), at("own 1"), at("own 0"), cond(0, -1), cond(0, -1), at("own 0"))
	expectHomes(t, "SEQ(A a, B b) WHERE (a.x = 1 AND b.x = 1 OR FALSE) AND NOT (a.x = 1 AND a.k = 1) AND (TRUE OR FALSE AND TRUE)", cond(0, -1), at("own 0"), at("fixed"))
	expectHomes(t, "SEQ(A a, !B n) WHERE n.x = 2 AND n.x = a.x AND n.x = 1 AND n.k = a.x AND n.x = 2", at("guard 0"), at("rest 0"), at("guard 0"), at("rest 0"), at("guard 0"))
	expectHomes(t, "SEQ(A a, B b) WHERE COUNT(b) = 1 AND b.x = COUNT(b) AND COUNT(b) = 1 AND a.x = b.x AND b.x = a.x", cond(1, -1), cond(1, -1), cond(1, -1), cond(0, -1), cond(0, -1))

	// What is always true or false stays where its mentions lay it.
	expectHomes(t, "SEQ(A a, !B n, C c) WHERE a.x = a.x AND (TRUE OR c.k = a.x) AND (FALSE AND n.x = 1 OR TRUE)", at("own 0"), cond(0, -1), at("guard 0"))
}

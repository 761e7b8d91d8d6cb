package check_test

import (
	"fmt"
	"slices"
	"testing"

	"sluice/api"
	"sluice/check"
	"sluice/show"
)

// A second checker, over expressions that are trees of their own, which tells all that is wrong with a query.

// term: an expression, whose operands are its parts.
type term struct {
	op      api.Op
	n       int64
	v, attr string
	parts   []term
}

func of(op api.Op, parts ...term) term { return term{op: op, parts: parts} }

// nodes: the term's nodes in post order.
func nodes(x term) []api.Node {
	out, _ := behind(nil, x)
	return out
}

// behind: the list with the term's nodes behind it, and the place of its root.
func behind(list []api.Node, x term) ([]api.Node, int) {
	n := api.Node{Op: x.op, N: x.n, Var: x.v, Attr: x.attr, A: -1, B: -1}
	if len(x.parts) > 0 {
		list, n.A = behind(list, x.parts[0])
	}
	if len(x.parts) > 1 {
		list, n.B = behind(list, x.parts[1])
	}
	return append(list, n), len(list)
}

// size: how many nodes a term has.
func (x term) size() int {
	n := 1
	for _, p := range x.parts {
		n += p.size()
	}
	return n
}

// placed: a term, and the place of its root.
type placed struct {
	term
	at int
}

// all: the terms within a term that begins at a place, in post order.
func (x term) all(first int) []placed {
	var out []placed
	at := first
	for _, p := range x.parts {
		out = append(out, p.all(at)...)
		at += p.size()
	}
	return append(out, placed{x, at})
}

// conjuncts: those of a term that begins at a place.
func (x term) conjuncts(first int) []placed {
	if x.op == api.OpAnd {
		return append(x.parts[0].conjuncts(first), x.parts[1].conjuncts(first+x.parts[0].size())...)
	}
	return []placed{{x, first + x.size() - 1}}
}

// words: which operators are truths, which ask for truths, which mention a variable, and how.
var (
	areTruths  = []api.Op{api.OpTrue, api.OpFalse, api.OpNot, api.OpAnd, api.OpOr, api.OpEq, api.OpNe, api.OpLt, api.OpLe, api.OpGt, api.OpGe}
	askTruths  = []api.Op{api.OpNot, api.OpAnd, api.OpOr}
	areBare    = []api.Op{api.OpAttr, api.OpPrev}
	aggregates = []api.Op{api.OpCount, api.OpSum, api.OpMin, api.OpMax, api.OpFirst, api.OpLast}
)

func (x term) truth() bool     { return slices.Contains(areTruths, x.op) }
func (x term) bare() bool      { return slices.Contains(areBare, x.op) }
func (x term) aggregate() bool { return slices.Contains(aggregates, x.op) }

// asked: a query with its expressions as terms.
type asked struct {
	api.Query
	where []term // none or one
	ret   []term
}

func (a asked) query() api.Query {
	q := a.Query
	q.Items = slices.Clone(q.Items)
	q.Where, q.Ret = nil, nil
	for _, x := range a.where {
		q.Where = nodes(x)
	}
	for _, x := range a.ret {
		q.Ret = append(q.Ret, nodes(x))
	}
	return q
}

// kind: that of an item: s, r or n.
func kind(i api.Item) byte {
	if i.Neg {
		return 'n'
	}
	if i.Hi > 1 {
		return 'r'
	}
	return 's'
}

// typeOf: the schema's type of that name; a type without a name, if there is none.
func typeOf(s api.Schema, name string) api.TypeDef {
	for _, t := range s.Types {
		if t.Name == name {
			return t
		}
	}
	return api.TypeDef{}
}

// has: have all types of an item the attribute?
func has(s api.Schema, i api.Item, attr string) bool {
	for _, name := range i.Types {
		if attr != "ts" && !slices.Contains(typeOf(s, name).Attrs, attr) {
			return false
		}
	}
	return true
}

func (a asked) itemOf(v string) (api.Item, bool) {
	for _, i := range a.Items {
		if i.Var == v {
			return i, true
		}
	}
	return api.Item{}, false
}

// itemFlaws: the rules 3 to 5.
func (a asked) itemFlaws(s api.Schema) (out []api.Flaw) {
	if len(a.Items) > 10 {
		out = append(out, inItem(api.ErrItems, 10))
	}
	positive := false
	for n, i := range a.Items {
		positive = positive || kind(i) != 'n'
		counts := map[string]int{}
		for _, name := range i.Types {
			counts[name]++
			if typeOf(s, name).Name == "" {
				out = append(out, inItem(api.ErrNoType, n))
			}
		}
		if len(counts) < len(i.Types) {
			out = append(out, inItem(api.ErrTypeTwice, n))
		}
		if !slices.Contains([]string{"1 1", "1 2", "1 3", "1 4", "2 2", "2 3", "2 4", "3 3", "3 4", "4 4"}, fmt.Sprint(i.Lo, i.Hi)) {
			out = append(out, inItem(api.ErrRep, n))
		}
		for _, j := range a.Items[:n] {
			if j.Var == i.Var {
				out = append(out, inItem(api.ErrVarTwice, n))
			}
		}
	}
	if !positive {
		out = append(out, inItem(api.ErrNoPositive, 0))
	}
	return out
}

// termCodes: what is wrong with a term's root by rule 6, and by rule 12 if it stands in a result.
func (a asked) termCodes(s api.Schema, x term, result bool) (out []api.Errno) {
	if x.bare() || x.aggregate() {
		i, there := a.itemOf(x.v)
		if !there {
			return []api.Errno{api.ErrNoVar}
		}
		if x.op != api.OpCount && !has(s, i, x.attr) {
			out = append(out, api.ErrNoAttr)
		}
		if x.aggregate() && kind(i) == 'n' || x.op == api.OpPrev && kind(i) != 'r' || result && x.bare() && kind(i) != 's' {
			out = append(out, api.ErrUse)
		}
	}
	for _, p := range x.parts {
		if p.truth() != slices.Contains(askTruths, x.op) {
			out = append(out, api.ErrKind)
		}
	}
	return out
}

// mixed: rule 8 of a conjunct, each of its mentions held against each other one.
func (a asked) mixed(x term) bool {
	for _, p := range x.all(0) {
		for _, o := range x.all(0) {
			i, _ := a.itemOf(p.v)
			j, _ := a.itemOf(o.v)
			kinds := string(kind(i)) + string(kind(j))
			mention := (p.bare() || p.aggregate()) && (o.bare() || o.aggregate()) && p.v != o.v
			if mention && (kinds == "nn" || kinds == "nr" && o.bare() || kinds == "rr" && p.bare() && o.bare()) {
				return true
			}
		}
	}
	return false
}

// flaws: all that is wrong with a well shaped query over a sound schema, in the order of the rules.
func (a asked) flaws(s api.Schema) []api.Flaw {
	out := a.itemFlaws(s)
	for _, w := range a.where {
		for _, x := range w.all(0) {
			for _, code := range a.termCodes(s, x.term, false) {
				out = append(out, inWhere(code, x.at))
			}
		}
		if !w.truth() {
			out = append(out, inWhere(api.ErrKind, w.size()-1))
		}
		for _, x := range w.conjuncts(0) {
			if a.mixed(x.term) {
				out = append(out, inWhere(api.ErrMix, x.at))
			}
		}
	}
	if a.Within > 1<<40 {
		out = append(out, inWithin)
	}
	for _, i := range a.Items {
		if a.By == "ts" || a.By != "" && !has(s, i, a.By) {
			out = append(out, inBy)
		}
	}
	if len(a.ret) > 8 {
		out = append(out, inResult(api.ErrReturns, 8, 0))
	}
	for n, r := range a.ret {
		for _, x := range r.all(0) {
			for _, code := range a.termCodes(s, x.term, true) {
				out = append(out, inResult(code, n, x.at))
			}
		}
		if r.truth() {
			out = append(out, inResult(api.ErrKind, n, r.size()-1))
		}
	}
	return out
}

// flaw: the first of them.
func (a asked) flaw(s api.Schema) api.Flaw { return append(a.flaws(s), none)[0] }

// TestAgainstTheSecondChecker: scattered queries, most of them with one flaw or none, some with many.
func TestAgainstTheSecondChecker(t *testing.T) {
	pick := scatter(1)
	codes := map[api.Flaw]int{}
	single := 0
	for range 30000 {
		a := grower{pick: pick, odd: []int{1000, 60, 20, 6}[pick(4)]}.query()
		q := a.query()
		if !show.Shaped(q) {
			t.Fatalf("not well shaped: %+v", q)
		}
		all := a.flaws(grounds)
		if len(all) == 1 {
			single++
		}
		want := a.flaw(grounds)
		if got := check.Check(grounds, q); got != want {
			t.Fatalf("%+v: %s, want %s", q, told(got), told(want))
		}
		codes[api.Flaw{Code: want.Code, Part: want.Part}]++
	}
	for _, f := range []api.Flaw{
		none, inItem(api.ErrItems, 0), inItem(api.ErrNoType, 0), inItem(api.ErrTypeTwice, 0), inItem(api.ErrRep, 0), inItem(api.ErrVarTwice, 0), inItem(api.ErrNoPositive, 0),
		inWhere(api.ErrNoVar, 0), inWhere(api.ErrNoAttr, 0), inWhere(api.ErrUse, 0), inWhere(api.ErrKind, 0), inWhere(api.ErrMix, 0), inWithin, inBy, inResult(api.ErrReturns, 0, 0),
		inResult(api.ErrNoVar, 0, 0), inResult(api.ErrNoAttr, 0, 0), inResult(api.ErrUse, 0, 0), inResult(api.ErrKind, 0, 0),
	} {
		if codes[f] < 100 {
			t.Errorf("%s comes up %d times: too seldom", told(f), codes[f])
		}
	}
	if single < 3000 {
		t.Errorf("%d queries with a single flaw: too few", single)
	}
}

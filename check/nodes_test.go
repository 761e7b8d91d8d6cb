package check_test

import (
	"fmt"
	"slices"
	"strings"
	"testing"

	"sluice/api"
	"sluice/check"
)

// mention: how a variable is mentioned: barely, or by an aggregate.
type mention struct {
	op   api.Op
	word string // what stands ahead of the bracket; nothing for v.attr
}

var mentions = []mention{
	{api.OpAttr, ""}, {api.OpPrev, "PREV"}, {api.OpCount, "COUNT"}, {api.OpSum, "SUM"}, {api.OpMin, "MIN"}, {api.OpMax, "MAX"}, {api.OpFirst, "FIRST"}, {api.OpLast, "LAST"},
}

func (m mention) barely() bool { return m.op == api.OpAttr || m.op == api.OpPrev }

// text: the mention of a variable with an attribute.
func (m mention) text(v, attr string) string {
	switch m.op {
	case api.OpAttr:
		return v + "." + attr
	case api.OpCount:
		return "COUNT(" + v + ")"
	}
	return m.word + "(" + v + "." + attr + ")"
}

// items: a single one, a repeated one, one that is repeated just so often, a negated one. A z is no item's.
const items = "SEQ((A|B) s, A+ r, B f{2,2}, !(B|A) n, C c) "

// flawOf: by the rules 6 and 12 what is wrong with a mention of v.attr over the items, said as it stands there.
func flawOf(m mention, v, attr string, result bool) api.Errno {
	switch {
	case v == "z":
		return api.ErrNoVar
	case attr == "k" && m.op != api.OpCount:
		return api.ErrNoAttr
	case v == "n" && !m.barely():
		return api.ErrUse
	case m.op == api.OpPrev && v != "r" && v != "f":
		return api.ErrUse
	case result && m.barely() && v != "s":
		return api.ErrUse
	}
	return api.OK
}

// Rules 6 and 12: each mention of each kind of variable, with an attribute that all its types have, with one that some have not, and with ts.
func TestMentions(t *testing.T) {
	for _, m := range mentions {
		for _, v := range []string{"s", "r", "f", "n", "z"} {
			for _, attr := range []string{"x", "k", "ts"} {
				if v == "r" && attr == "k" {
					continue // it has both
				}
				text := m.text(v, attr)
				word := text[:strings.IndexAny(text, ".(")+1]
				want := row{items + "WHERE 1 = " + text + " WITHIN 5", none, ""}
				if code := flawOf(m, v, attr, false); code != api.OK {
					want.want, want.word = inWhere(code, 1), word
				}
				expectRows(t, plain, []row{want})
				want = row{items + "WITHIN 5 RETURN 7, 1 + " + text, none, ""}
				if code := flawOf(m, v, attr, true); code != api.OK {
					want.want, want.word = inResult(code, 1, 1), word
				}
				expectRows(t, plain, []row{want})
			}
		}
	}
}

// Rules 6 and 12: an attribute is that of all types of the variable's item; which place it has there does not matter.
func TestAttributes(t *testing.T) {
	expectRows(t, "type A(x, k) type B(k, x) type D() type ts(x)", []row{
		{"SEQ((A|B) a) WHERE a.x = a.k WITHIN 5 PARTITION BY k RETURN a.x, SUM(a.k)", none, ""},
		{"SEQ((A|B|D) a) WHERE a.ts = 1 WITHIN 5 RETURN a.ts, MAX(a.ts)", none, ""},
		{"SEQ((A|B|D) a) WHERE a.k = 1 WITHIN 5", inWhere(api.ErrNoAttr, 0), "a.k"},
		{"SEQ((D|A) a) WHERE a.k = 1 WITHIN 5", inWhere(api.ErrNoAttr, 0), "a.k"},
		{"SEQ(D a) WHERE a.x = 1 WITHIN 5", inWhere(api.ErrNoAttr, 0), "a.x"},
		{"SEQ(D a, A b) WHERE b.x = a.x WITHIN 5", inWhere(api.ErrNoAttr, 1), "a.x"},
		{"SEQ(A a) WHERE a.X = 1 WITHIN 5", inWhere(api.ErrNoAttr, 0), "a.X"},
		{"SEQ(A a) WHERE A.x = 1 WITHIN 5", inWhere(api.ErrNoVar, 0), "A.x"},
		{"SEQ(A a) WHERE a.A = 1 WITHIN 5", inWhere(api.ErrNoAttr, 0), "a.A"},
		{"SEQ(A a) WHERE ts.x = 1 WITHIN 5", inWhere(api.ErrNoVar, 0), "ts.x"},
		{"SEQ(ts ts) WHERE ts.ts = ts.x WITHIN 5", none, ""},
		{"SEQ(ts ts) WITHIN 5 PARTITION BY ts", inBy, "ts"},
		{"SEQ(A a, D d) WHERE d.z = 1 WITHIN 5", inWhere(api.ErrNoAttr, 0), "d.z"},
		{"SEQ(A a) WITHIN 5 RETURN a.x, a.y", inResult(api.ErrNoAttr, 1, 0), "a.y"},
	})
}

// operators: how each one is written between two operands, and what it is of.
var operators = []struct {
	word            string
	truths, isTruth bool
}{
	{"+", false, false}, {"-", false, false}, {"*", false, false}, {"/", false, false}, {"%", false, false},
	{"=", false, true}, {"!=", false, true}, {"<", false, true}, {"<=", false, true}, {">", false, true}, {">=", false, true},
	{"AND", true, true}, {"OR", true, true},
}

// truths, numbers: what is one, in brackets where it needs them.
var truths, numbers = []string{"TRUE", "FALSE", "(1 = 2)", "(s.x != 1)", "(1 < 2)", "(1 <= 2)", "(1 > 2)", "(1 >= 2)", "(NOT TRUE)", "(TRUE AND FALSE)", "(TRUE OR FALSE)"},
	[]string{"0", "7", "s.x", "COUNT(s)", "SUM(s.x)", "MIN(s.x)", "MAX(s.x)", "FIRST(s.x)", "LAST(s.x)", "(-1)", "(1 + 2)", "(1 - 2)", "(1 * 2)", "(1 / 2)", "(1 % 2)"}

func isTruth(text string) bool { return slices.Contains(truths, text) }

// expectKinds holds an expression against what is wrong with its root's operands and, if nothing is, with its kind: in Where a truth is asked, in a result a number.
func expectKinds(t *testing.T, text string, fits, truth bool) {
	t.Helper()
	s, tree := schemaOf(plain), treeOf(text)
	root := len(tree) - 1
	q := queryOf(items + "WITHIN 5")
	for _, c := range []struct {
		want api.Flaw
		set  func()
	}{
		{inWhere(api.ErrKind, root), func() { q.Where = tree }},
		{inResult(api.ErrKind, 1, root), func() { q.Where, q.Ret = nil, [][]api.Node{treeOf("1"), tree} }},
	} {
		c.set()
		want := c.want
		if fits && truth == (want.Part == api.PartWhere) {
			want = none
		}
		if got := check.Check(s, q); got != want {
			t.Errorf("kinds: %q as part %d: %s, want %s", text, c.want.Part, told(got), told(want))
		}
	}
}

// Rules 6, 7 and 12: each operator over each two operands, and each operand alone.
func TestKinds(t *testing.T) {
	all := slices.Concat(truths, numbers)
	for _, a := range all {
		expectKinds(t, a, true, isTruth(a))
		expectKinds(t, "-"+a, !isTruth(a), false)
		if isTruth(a) || !strings.HasPrefix(a, "(") {
			expectKinds(t, "NOT "+a, isTruth(a), true)
		} else {
			expectKinds(t, "NOT ("+a+")", false, true)
		}
		for _, b := range all {
			for _, op := range operators {
				expectKinds(t, a+" "+op.word+" "+b, isTruth(a) == op.truths && isTruth(b) == op.truths, op.isTruth)
			}
		}
	}
}

// Rules 6 and 7: kinds are told at the operator, in the order of the nodes; the root's own kind behind all nodes.
func TestWhereInOrder(t *testing.T) {
	expectRows(t, plain, []row{
		{"SEQ(A a) WITHIN 5", none, ""},
		{"SEQ(A a) WHERE TRUE WITHIN 5", none, ""},
		{"SEQ(A a) WHERE 1 WITHIN 5", inWhere(api.ErrKind, 0), "1"},
		{"SEQ(A a) WHERE a.x + 1 WITHIN 5", inWhere(api.ErrKind, 2), "+ 1"},
		{"SEQ(A a) WHERE 1 + TRUE WITHIN 5", inWhere(api.ErrKind, 2), "+ TRUE"},
		{"SEQ(A a) WHERE 1 + (TRUE + 1) WITHIN 5", inWhere(api.ErrKind, 3), "+ 1)"},
		{"SEQ(A a) WHERE (NOT 1) AND (NOT 2) WITHIN 5", inWhere(api.ErrKind, 1), "NOT 1"},
		{"SEQ(A a) WHERE (TRUE = FALSE) AND z.x WITHIN 5", inWhere(api.ErrKind, 2), "= FALSE"},
		{"SEQ(A a) WHERE z.x AND TRUE = FALSE WITHIN 5", inWhere(api.ErrNoVar, 0), "z.x"},
		{"SEQ(A a) WHERE 1 AND z.x = 1 WITHIN 5", inWhere(api.ErrNoVar, 1), "z.x"},
		{"SEQ(A a) WHERE z.x WITHIN 5", inWhere(api.ErrNoVar, 0), "z.x"},
		{"SEQ(A a) WHERE a.z WITHIN 5", inWhere(api.ErrNoAttr, 0), "a.z"},
		{"SEQ(A a) WHERE PREV(a.x) WITHIN 5", inWhere(api.ErrUse, 0), "PREV"},
		{"SEQ(A a) WHERE z.z = a.z WITHIN 5", inWhere(api.ErrNoVar, 0), "z.z"},
		{"SEQ(A a) WHERE a.z = z.z WITHIN 5", inWhere(api.ErrNoAttr, 0), "a.z"},
		{"SEQ(A a) WHERE PREV(a.z) = z.z WITHIN 5", inWhere(api.ErrNoAttr, 0), "PREV"},
		{"SEQ(A a) WHERE PREV(z.x) = 1 WITHIN 5", inWhere(api.ErrNoVar, 0), "PREV"},
		{"SEQ(A a, !B n) WHERE SUM(n.k) = 1 WITHIN 5", inWhere(api.ErrNoAttr, 0), "SUM"},
		{"SEQ(A a, !B n) WHERE PREV(n.x) = 1 WITHIN 5", inWhere(api.ErrUse, 0), "PREV"},
		{"SEQ(A a, !B n) WHERE COUNT(n) = z.x WITHIN 5", inWhere(api.ErrUse, 0), "COUNT"},
		{"SEQ(A a, !B n) WHERE 1 = COUNT(n) AND n.x = 1 WITHIN 5", inWhere(api.ErrUse, 1), "COUNT"},
		{"SEQ(A+ a, B+ b) WHERE b.x = a.x AND d.x = 1 WITHIN 5", inWhere(api.ErrNoVar, 3), "d.x"},
		{"SEQ(A+ a, B+ b) WHERE b.x = a.x AND 1 WITHIN 5", inWhere(api.ErrKind, 4), "AND"},
		{"SEQ(A+ a, B+ b) WHERE b.x + a.x WITHIN 5", inWhere(api.ErrKind, 2), "+ a.x"},
		{"SEQ(A a) WHERE a.x WITHIN 1099511627777 PARTITION BY z RETURN TRUE", inWhere(api.ErrKind, 0), "a.x"},
	})
}

// Rules 11 and 12.
func TestResults(t *testing.T) {
	expectRows(t, plain, []row{
		{"SEQ(A a) WITHIN 5 RETURN 1, 2, 3, 4, 5, 6, 7, a.x", none, ""},
		{"SEQ(A a) WITHIN 5 RETURN 1, 2, 3, 4, 5, 6, 7, TRUE", inResult(api.ErrKind, 7, 0), "TRUE"},
		{"SEQ(A a) WITHIN 5 RETURN 1, 2, 3, 4, 5, 6, 7, 8, 9 + 10", inResult(api.ErrReturns, 8, 0), "9 + 10"},
		{"SEQ(A a) WITHIN 5 RETURN TRUE, z.z, a.z, PREV(a.x), 5, 6, 7, 8, -9, 10, 11", inResult(api.ErrReturns, 8, 0), "9, 10"},
		{"SEQ(A a) WITHIN 5 PARTITION BY z RETURN 1, 2, 3, 4, 5, 6, 7, 8, 9", inBy, "z"},
		{"SEQ(A a) WITHIN 5 RETURN TRUE", inResult(api.ErrKind, 0, 0), "TRUE"},
		{"SEQ(A a) WITHIN 5 RETURN a.x = 1, z.x", inResult(api.ErrKind, 0, 2), "= 1"},
		{"SEQ(A a) WITHIN 5 RETURN a.x, 1 + (NOT TRUE)", inResult(api.ErrKind, 1, 3), "+ (NOT"},
		{"SEQ(A a) WITHIN 5 RETURN a.x, NOT (1 + TRUE)", inResult(api.ErrKind, 1, 2), "+ TRUE"},
		{"SEQ(A a) WITHIN 5 RETURN 1 = z.x", inResult(api.ErrNoVar, 0, 1), "z.x"},
		{"SEQ(A a) WITHIN 5 RETURN a.x, a.x, 1 = a.z", inResult(api.ErrNoAttr, 2, 1), "a.z"},
		{"SEQ(A+ a) WITHIN 5 RETURN a.z", inResult(api.ErrNoAttr, 0, 0), "a.z"},
		{"SEQ(A+ a) WITHIN 5 RETURN PREV(a.z)", inResult(api.ErrNoAttr, 0, 0), "PREV"},
		{"SEQ(A+ a) WITHIN 5 RETURN PREV(z.x)", inResult(api.ErrNoVar, 0, 0), "PREV"},
		{"SEQ(A+ a) WITHIN 5 RETURN PREV(a.x)", inResult(api.ErrUse, 0, 0), "PREV"},
		{"SEQ(A a) WITHIN 5 RETURN PREV(a.x)", inResult(api.ErrUse, 0, 0), "PREV"},
		{"SEQ(A a, !B n) WITHIN 5 RETURN PREV(n.x)", inResult(api.ErrUse, 0, 0), "PREV"},
		{"SEQ(A a, !B n) WITHIN 5 RETURN n.x", inResult(api.ErrUse, 0, 0), "n.x"},
		{"SEQ(A a, !B n) WITHIN 5 RETURN MAX(n.x)", inResult(api.ErrUse, 0, 0), "MAX"},
		{"SEQ(A+ a, !B n) WITHIN 5 RETURN n.ts, a.ts", inResult(api.ErrUse, 0, 0), "n.ts"},
		{"SEQ(A+ a, B b) WITHIN 5 RETURN b.x - FIRST(a.x), b.ts, COUNT(b), LAST(b.x), LAST(a.ts)", none, ""},
		{"SEQ(A+ a, B+ b) WITHIN 5 RETURN SUM(a.x) + SUM(b.x)", none, ""},
		{"SEQ(A a{2,2}) WITHIN 5 RETURN a.x", inResult(api.ErrUse, 0, 0), "a.x"},
		{"SEQ(A a{1,1}) WITHIN 5 RETURN a.x", none, ""},
		{"SEQ(A a) WHERE a.x = 1 WITHIN 5 RETURN 7", none, ""},
	})
	q := queryOf("SEQ(A a) WITHIN 5 RETURN 1")
	for n := 1; n < 20; n++ {
		want := none
		if n > 8 {
			want = inResult(api.ErrReturns, 8, 0)
		}
		if got := check.Check(schemaOf(plain), q); got != want {
			t.Errorf("rule 11: %d results: %s", n, told(got))
		}
		q.Ret = append(q.Ret, treeOf(fmt.Sprint(n)))
	}
}

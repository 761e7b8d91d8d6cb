package check_test

import (
	"strings"
	"testing"

	"sluice/api"
)

// said: a mention of a variable.
type said struct {
	mention
	v string
}

// Items for what may not stand together: two of each kind.
const pairs = "SEQ(A s, B t, A+ r, B q{2,3}, !A m, !B n) "

// sayings: each mention that rule 6 lets by.
func sayings() []said {
	var out []said
	for _, m := range mentions {
		for _, v := range strings.Fields("s t r q m n") {
			repeated, negated := v == "r" || v == "q", v == "m" || v == "n"
			if !(negated && !m.barely()) && !(m.op == api.OpPrev && !repeated) {
				out = append(out, said{m, v})
			}
		}
	}
	return out
}

// clash: rule 8, word by word, of two mentions.
func clash(a, b said) bool {
	repeated := func(s said) bool { return s.v == "r" || s.v == "q" }
	negated := func(s said) bool { return s.v == "m" || s.v == "n" }
	switch {
	case negated(a) && negated(b):
		return a.v != b.v
	case negated(a) && repeated(b):
		return b.barely()
	case repeated(a) && negated(b):
		return a.barely()
	case repeated(a) && repeated(b):
		return a.v != b.v && a.barely() && b.barely()
	}
	return false
}

// Rule 8: each two mentions in one conjunct, in several forms of it; and in two conjuncts, where nothing clashes.
func TestTwoMentions(t *testing.T) {
	clashes := 0
	for _, a := range sayings() {
		for _, b := range sayings() {
			x, y := a.text(a.v, "x"), b.text(b.v, "x")
			one := []row{
				{x + " < " + y, inWhere(api.ErrMix, 2), "< "},
				{"TRUE AND " + x + " - " + y + " < 7", inWhere(api.ErrMix, 5), "< 7"},
				{"NOT (" + x + " = 1 AND " + y + " != 2) AND s.x = 3", inWhere(api.ErrMix, 7), "NOT"},
				{"s.x = t.x AND (s.x = 1 AND (" + x + " = 1 OR " + y + " = 2))", inWhere(api.ErrMix, 12), "OR"},
			}
			for _, r := range one {
				r.text = pairs + "WHERE " + r.text + " WITHIN 5"
				if !clash(a, b) {
					r.want, r.word = none, ""
				} else {
					clashes++
				}
				expectRows(t, plain, []row{r})
			}
			expectRows(t, plain, []row{
				{pairs + "WHERE " + x + " = 1 AND " + y + " = 2 WITHIN 5", none, ""},
				{pairs + "WHERE 1 = 1 AND (" + x + " = s.x AND (TRUE AND " + y + " = t.x)) WITHIN 5", none, ""},
			})
		}
	}
	if clashes < 100 {
		t.Errorf("rule 8: %d clashes: too few", clashes)
	}
}

// Rule 8: three mentions clash just if two of them do, wherever they stand among single ones.
func TestThreeMentions(t *testing.T) {
	list := sayings()
	for i, a := range list {
		for j, b := range list {
			c := list[(i*7+j*3)%len(list)]
			text := "s.x + " + a.text(a.v, "x") + " + COUNT(t) + " + b.text(b.v, "ts") + " = t.x * " + c.text(c.v, "x")
			want := row{pairs + "WHERE " + text + " WITHIN 5", none, ""}
			if clash(a, b) || clash(b, c) || clash(a, c) {
				want.want, want.word = inWhere(api.ErrMix, 10), "="
			}
			expectRows(t, plain, []row{want})
		}
	}
}

// Rule 8: of several conjuncts the leftmost that clashes, wherever its own ANDs lie; ahead of the window, behind all nodes.
func TestMixesInOrder(t *testing.T) {
	expectRows(t, plain, []row{
		{pairs + "WHERE m.x = n.x AND r.x = q.x WITHIN 5", inWhere(api.ErrMix, 2), "= n.x"},
		{pairs + "WHERE m.x = m.ts AND r.x = q.x AND m.x = n.x WITHIN 5", inWhere(api.ErrMix, 5), "= q.x"},
		{pairs + "WHERE m.x = 1 AND (r.x = q.x AND m.x = n.x) WITHIN 5", inWhere(api.ErrMix, 5), "= q.x"},
		{pairs + "WHERE (m.x = 1 AND n.x = 1) AND (r.x = 1 AND q.x = 1) WITHIN 5", none, ""},
		{pairs + "WHERE m.x = 1 AND n.x = 1 OR FALSE WITHIN 5", inWhere(api.ErrMix, 8), "OR"},
		{pairs + "WHERE NOT (m.x = 1 AND n.x = 1) WITHIN 5", inWhere(api.ErrMix, 7), "NOT"},
		{pairs + "WHERE m.x = n.x WITHIN 1099511627777", inWhere(api.ErrMix, 2), "= n.x"},
		{pairs + "WHERE m.x = n.x AND z.x = 1 WITHIN 5", inWhere(api.ErrNoVar, 3), "z.x"},
		{pairs + "WHERE m.x = n.x AND COUNT(m) = 1 WITHIN 5", inWhere(api.ErrUse, 3), "COUNT"},
		{pairs + "WHERE r.x = SUM(r.x) + SUM(q.x) + MAX(s.x) + s.x + t.x + PREV(r.x) WITHIN 5", none, ""},
		{pairs + "WHERE m.x = SUM(r.x) + SUM(q.x) + MAX(s.x) + s.x + t.x + m.ts WITHIN 5", none, ""},
		{pairs + "WHERE SUM(r.x) + LAST(q.x) = COUNT(r) WITHIN 5", none, ""},
	})
}

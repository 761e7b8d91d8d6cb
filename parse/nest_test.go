package parse_test

import (
	"strings"
	"testing"

	"sluice/api"
)

func times(n int, s string) string { return strings.Repeat(s, n) }

// nested: the text in that many brackets.
func nested(n int, text string) string { return times(n, "(") + text + times(n, ")") }

func TestNestsAsDeepAsMayBe(t *testing.T) {
	for _, text := range []string{
		nested(32, "1"), times(32, "NOT ") + "1", times(32, "-") + "1", times(16, "(-") + "1" + times(16, ")"), times(16, "(NOT ") + "1" + times(16, ")"),
		times(10, "(") + times(12, "NOT ") + times(10, "-") + "1" + times(10, ")"), times(31, "(") + "-1 + -2" + times(31, ")"), times(31, "NOT ") + "-1 = -2", times(31, "NOT ") + "(1) = (2)",
		nested(32, "SUM(a.x)"), nested(32, "COUNT(a)"), times(32, "-") + "PREV(a.x)", nested(32, "1 - 2 - 3"), nested(31, "1 - (2) - (3)"),
		nested(32, "1") + " + " + nested(32, "2"), times(32, "-") + "1 - " + times(32, "-") + "2 * " + times(32, "-") + "3", times(32, "NOT ") + "1 AND " + times(32, "NOT ") + "2 OR " + times(32, "NOT ") + "3",
		"NOT " + nested(31, "1") + " = " + nested(31, "2"), "(" + nested(31, "1") + ")" + times(50, " AND NOT 1"), times(99, "-1 -") + "1", times(60, "NOT 1 OR ") + "1", times(60, "(1) * ") + "1", "-(" + times(30, "(") + "1" + times(30, ")") + ") * " + times(32, "-") + "1",
	} {
		if got := exprOf(text); got.code != api.OK || got.at != 0 {
			t.Errorf("4.4: Expr(%s) is refused: %d at %d", short(text), got.code, got.at)
		}
		query := "PATTERN SEQ((A|B) a) WHERE " + text + " WITHIN 1"
		if got := queryOf(query); got.code != api.OK || got.at != 0 {
			t.Errorf("4.4: Parse(%s) is refused: %d at %d", short(query), got.code, got.at)
		}
	}
	half := nested(16, "1") + "+" + times(32, "-") + "1"
	if got := queryOf("PATTERN SEQ(A a) WHERE " + half + " WITHIN 1 RETURN " + half + "," + half); got.code != api.OK {
		t.Errorf("4.4: what is open in one expression counts in another: %d at %d", got.code, got.at)
	}
}

func TestNestsTooDeep(t *testing.T) {
	for _, c := range []struct {
		text string
		at   int
	}{
		{nested(33, "1"), 32}, {times(33, "("), 32}, {times(40, "("), 32}, {times(33, "-") + "1", 32}, {times(33, "-"), 32}, {times(33, "NOT ") + "1", 128}, {times(33, "NOT "), 128},
		{times(33, "NOT ") + ".", 128}, {times(16, "(") + times(16, "NOT ") + "-1", 80}, {times(16, "(-") + "(1)", 32}, {times(16, "(NOT ") + "(1)", 80}, {times(32, "NOT ") + "-1", 128}, {times(32, "-") + "(1)", 32},
		{times(31, "(") + "1 = -(2)", 36}, {times(31, "NOT ") + "1 = -(2)", 129}, {times(31, "NOT ") + "-1 = - - 2", 131}, {times(31, "NOT ") + "(1) = ((2))", 131},
		{"(1) + " + times(33, "-") + "1", 38}, {nested(32, "1") + "*" + nested(33, "2"), 98}, {"-1 + " + nested(33, "2"), 37}, {"NOT 1 AND " + nested(33, "1"), 42}, {"NOT 1 = " + nested(32, "1"), 39}, {"1 - " + times(33, "-") + "1", 36},
		{nested(31, "-1 = (((2)))"), 37}, {nested(32, "SUM(a.x) + COUNT(a) - -1"), 54}, {times(32, "(") + "TRUE OR NOT 1", 40},
	} {
		exprRefused(t, c.text, api.ErrDeep, c.at)
		queryRefused(t, "PATTERN SEQ((A|B) a) WHERE "+c.text, api.ErrDeep, c.at+27)
		queryRefused(t, "PATTERN SEQ(A a) WITHIN 1 RETURN -1, "+c.text+",", api.ErrDeep, c.at+37)
	}
}

func TestWordAndDeep(t *testing.T) {
	for _, c := range []struct {
		text string
		code api.Errno
		at   int
	}{
		{times(32, "("), api.ErrWord, 32}, {times(32, "(") + ")", api.ErrWord, 32}, {times(32, "(") + ") (", api.ErrWord, 32}, {times(32, "NOT ") + ".", api.ErrWord, 128}, {times(32, "NOT ") + "+ NOT", api.ErrWord, 128}, {times(32, "-") + "NOT 1", api.ErrWord, 32}, {times(32, "-") + "= -", api.ErrWord, 32},
		{") " + times(40, "("), api.ErrWord, 0}, {"1 1 " + times(40, "-"), api.ErrWord, 2}, {times(10, "(") + "a " + times(40, "("), api.ErrWord, 12}, {times(31, "(") + "1 = 2 = (((", api.ErrWord, 37}, {"1 + NOT " + times(40, "NOT "), api.ErrWord, 4},
		{times(33, "(") + ")", api.ErrDeep, 32}, {times(33, "NOT ") + "+", api.ErrDeep, 128}, {times(32, "(") + "-)", api.ErrDeep, 32}, {times(33, "-") + "NOT 1", api.ErrDeep, 32}, {times(33, "(") + "1" + times(34, ")"), api.ErrDeep, 32}, {times(33, "("), api.ErrDeep, 32},
		{nested(32, "1") + ")", api.ErrWord, 65}, {nested(32, "1") + "(", api.ErrWord, 65}, {times(32, "(") + "1(", api.ErrWord, 33}, {times(32, "(") + "COUNT((", api.ErrWord, 38}, {times(32, "(") + "a.(", api.ErrWord, 34},
	} {
		exprRefused(t, c.text, c.code, c.at)
		queryRefused(t, "PATTERN SEQ(A a) WHERE "+c.text, c.code, c.at+23)
	}
	queryRefused(t, "PATTERN SEQ("+times(40, "(")+"A a) WITHIN 1", api.ErrWord, 13)
	queryRefused(t, "PATTERN SEQ(A a) "+times(40, "NOT "), api.ErrWord, 17)
	queryRefused(t, "PATTERN SEQ(A a) WITHIN "+times(40, "-")+"1", api.ErrWord, 24)
	queryRefused(t, "PATTERN SEQ(A a) WHERE "+times(32, "(")+" WITHIN 1", api.ErrWord, 56)
}

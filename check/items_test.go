package check_test

import (
	"fmt"
	"math"
	"strings"
	"testing"

	"sluice/api"
	"sluice/check"
)

// itemsText: so many items, each with a variable of its own.
func itemsText(n int, item string) string {
	list := make([]string, n)
	for i := range list {
		list[i] = fmt.Sprint(item, " v", i)
	}
	return strings.Join(list, ", ")
}

// Rule 3.
func TestTooManyItems(t *testing.T) {
	expectRows(t, plain, []row{
		{"SEQ(" + itemsText(9, "A") + ") WITHIN 5", none, ""},
		{"SEQ(" + itemsText(10, "A") + ") WITHIN 5", none, ""},
		{"SEQ(" + itemsText(9, "!A") + ", B b) WITHIN 5", none, ""},
		{"SEQ(" + itemsText(10, "A") + ", B b) WITHIN 5", inItem(api.ErrItems, 10), "B b"},
		{"SEQ(" + itemsText(10, "A") + ", !B b) WITHIN 5", inItem(api.ErrItems, 10), "!B b"},
		{"SEQ(" + itemsText(10, "Q") + ", B b) WITHIN 5", inItem(api.ErrItems, 10), "B b"},
		{"SEQ(" + itemsText(11, "!A") + ") WITHIN 5", inItem(api.ErrItems, 10), "!A v10"},
		{"SEQ(" + itemsText(70, "A") + ") WHERE z.z WITHIN 1099511627777 PARTITION BY z RETURN z.z", inItem(api.ErrItems, 10), "A v10"},
	})
	q := queryOf("SEQ(A a) WITHIN 5")
	for len(q.Items) < 100000 {
		q.Items = append(q.Items, q.Items...)
	}
	if got := check.Check(schemaOf(plain), q); got != inItem(api.ErrItems, 10) {
		t.Errorf("rule 3: %d items: %s", len(q.Items), told(got))
	}
}

// Rule 4, one flaw at a time.
func TestItems(t *testing.T) {
	expectRows(t, plain, []row{
		{"SEQ(Q a) WITHIN 5", inItem(api.ErrNoType, 0), "Q a"},
		{"SEQ(a A) WITHIN 5", inItem(api.ErrNoType, 0), "a A"},
		{"SEQ(A a, (A|B|Q) b) WITHIN 5", inItem(api.ErrNoType, 1), "(A|B|Q)"},
		{"SEQ(A a, !Q b) WITHIN 5", inItem(api.ErrNoType, 1), "!Q"},
		{"SEQ((A|B|C) a) WITHIN 5", none, ""},
		{"SEQ((C|A|B) a, (A|B) b, (B|A) c) WITHIN 5", none, ""},
		{"SEQ((A|A) a) WITHIN 5", inItem(api.ErrTypeTwice, 0), "(A|A)"},
		{"SEQ(A a, (A|B|C|A) b) WITHIN 5", inItem(api.ErrTypeTwice, 1), "(A|B"},
		{"SEQ(A a, (C|B|B) b) WITHIN 5", inItem(api.ErrTypeTwice, 1), "(C|B"},
		{"SEQ(A a, !(C|B|C) b) WITHIN 5", inItem(api.ErrTypeTwice, 1), "!(C"},
		{"SEQ(A a, B a) WITHIN 5", inItem(api.ErrVarTwice, 1), "B a"},
		{"SEQ(A a, B b, C a) WITHIN 5", inItem(api.ErrVarTwice, 2), "C a"},
		{"SEQ(A a, B b, C b) WITHIN 5", inItem(api.ErrVarTwice, 2), "C b"},
		{"SEQ(A a, B a, C a) WITHIN 5", inItem(api.ErrVarTwice, 1), "B a"},
		{"SEQ(A b, A a, B a, C a) WITHIN 5", inItem(api.ErrVarTwice, 2), "B a"},
		{"SEQ(A a, !A a) WITHIN 5", inItem(api.ErrVarTwice, 1), "!A a"},
		{"SEQ(!A a, A a) WITHIN 5", inItem(api.ErrVarTwice, 1), "A a)"},
		{"SEQ(A a, A A, A _a, A a_, A ts) WITHIN 5", none, ""},
		{"SEQ(A A, A B, B C) WITHIN 5", none, ""},
	})
}

// Rule 4: Lo and Hi, as parse reads them and as plain data.
func TestRepetitions(t *testing.T) {
	numbers := []int{0, 1, 2, 3, 4, 5, 6, 100, math.MaxInt - 1, math.MaxInt}
	for _, lo := range numbers {
		for _, hi := range numbers {
			want, word := inItem(api.ErrRep, 1), "B b"
			if lo >= 1 && lo <= hi && hi <= 4 {
				want, word = none, ""
			}
			expectRows(t, plain, []row{{fmt.Sprintf("SEQ(A a, B b{%d,%d}, C c) WITHIN 5", lo, hi), want, word}})
			q := queryOf("SEQ(A a, B b, C c) WITHIN 5")
			q.Items[1].Lo, q.Items[1].Hi = lo, hi
			if got := check.Check(schemaOf(plain), q); got != want {
				t.Errorf("rule 4: %d to %d: %s", lo, hi, told(got))
			}
		}
	}
	expectRows(t, plain, []row{
		{"SEQ(A a{0,1}) WITHIN 5", inItem(api.ErrRep, 0), "A a"},
		{"SEQ(A a{1,4}) WITHIN 5", none, ""},
		{"SEQ(A a{1,5}) WITHIN 5", inItem(api.ErrRep, 0), "A a"},
		{"SEQ(A a{3,2}) WITHIN 5", inItem(api.ErrRep, 0), "A a"},
		{"SEQ(A a{4,4}) WITHIN 5", none, ""},
		{"SEQ(A+ a) WITHIN 5", none, ""},
	})
}

// Rule 4: of several flaws of one item the first by the rule's order, of several items the first item, whatever its flaw.
func TestOrderOfItemFlaws(t *testing.T) {
	expectRows(t, plain, []row{
		{"SEQ((A|A|Q) a) WITHIN 5", inItem(api.ErrNoType, 0), "(A|A"},
		{"SEQ((Q|Q) a) WITHIN 5", inItem(api.ErrNoType, 0), "(Q|Q"},
		{"SEQ(A a, (Q|A|A) a{0,9}) WITHIN 5", inItem(api.ErrNoType, 1), "(Q|A"},
		{"SEQ(A a, (B|A|A) a{0,9}) WITHIN 5", inItem(api.ErrTypeTwice, 1), "(B|A"},
		{"SEQ(A a, (B|A) a{0,9}) WITHIN 5", inItem(api.ErrRep, 1), "(B|A"},
		{"SEQ(A a, (B|A) a{1,3}) WITHIN 5", inItem(api.ErrVarTwice, 1), "(B|A"},
		{"SEQ(A a, A a, Q b) WITHIN 5", inItem(api.ErrVarTwice, 1), "A a, Q"},
		{"SEQ(A a{5,5}, (B|B) b, Q b) WITHIN 5", inItem(api.ErrRep, 0), "A a"},
		{"SEQ(A a, (B|B) b, Q b) WITHIN 5", inItem(api.ErrTypeTwice, 1), "(B|B"},
	})
}

// Rule 5.
func TestNoComponent(t *testing.T) {
	expectRows(t, plain, []row{
		{"SEQ(!A a) WITHIN 5", inItem(api.ErrNoPositive, 0), "!A a"},
		{"SEQ(!(B|A) a, !B b, !C c) WITHIN 5", inItem(api.ErrNoPositive, 0), "!(B|A"},
		{"SEQ(" + itemsText(10, "!A") + ") WITHIN 5", inItem(api.ErrNoPositive, 0), "!A v0"},
		{"SEQ(!A a, !B b, C c) WITHIN 5", none, ""},
		{"SEQ(A a, !B b, !C c) WITHIN 5", none, ""},
		{"SEQ(!A a, B b{4,4}, !C c) WITHIN 5", none, ""},
		{"SEQ(!A a, !B a) WITHIN 5", inItem(api.ErrVarTwice, 1), "!B a"},
		{"SEQ(!A a, !Q b) WITHIN 5", inItem(api.ErrNoType, 1), "!Q b"},
		{"SEQ(!A a, !B b) WHERE z.x WITHIN 1099511627777 PARTITION BY ts RETURN TRUE", inItem(api.ErrNoPositive, 0), "!A a"},
	})
}

// Rules 9 and 10, and their order.
func TestWindowAndPartition(t *testing.T) {
	expectRows(t, plain, []row{
		{"SEQ(A a) WITHIN 0", none, ""},
		{"SEQ(A a) WITHIN 1099511627776", none, ""},
		{"SEQ(A a) WITHIN 1099511627777", inWithin, "1099511627777"},
		{"SEQ(A a) WITHIN 9223372036854775807", inWithin, "9223372036854775807"},
		{"SEQ(A a) WITHIN 1099511627776 PARTITION BY k", none, ""},
		{"SEQ(A a) WITHIN 1099511627777 PARTITION BY z RETURN TRUE", inWithin, "1099511627777"},
		{"SEQ(A a) WITHIN 5 PARTITION BY x", none, ""},
		{"SEQ(A a) WITHIN 5 PARTITION BY X", inBy, "X"},
		{"SEQ(A a) WITHIN 5 PARTITION BY a", inBy, "a"},
		{"SEQ(A a) WITHIN 5 PARTITION BY A", inBy, "A"},
		{"SEQ(A a) WITHIN 5 PARTITION BY ts", inBy, "ts"},
		{"SEQ((A|B|C) a) WITHIN 5 PARTITION BY ts", inBy, "ts"},
		{"SEQ(A a, B b) WITHIN 5 PARTITION BY x", none, ""},
		{"SEQ(A a, B b) WITHIN 5 PARTITION BY k", inBy, "k"},
		{"SEQ(B b, A a) WITHIN 5 PARTITION BY k", inBy, "k"},
		{"SEQ(A a, C b) WITHIN 5 PARTITION BY k", none, ""},
		{"SEQ(A a, !C b) WITHIN 5 PARTITION BY x", inBy, "x"},
		{"SEQ(A a, !C b) WITHIN 5 PARTITION BY k", none, ""},
		{"SEQ(!C b, A a) WITHIN 5 PARTITION BY x", inBy, "x"},
		{"SEQ((A|B) a) WITHIN 5 PARTITION BY x", none, ""},
		{"SEQ((A|C) a) WITHIN 5 PARTITION BY x", inBy, "x"},
		{"SEQ((C|A) a) WITHIN 5 PARTITION BY x", inBy, "x"},
		{"SEQ(A a, (A|B|C) b) WITHIN 5 PARTITION BY x", inBy, "x"},
		{"SEQ(A a, !(B|C) b) WITHIN 5 PARTITION BY k", inBy, "k"},
		{"SEQ(A a) WITHIN 5 PARTITION BY z RETURN TRUE", inBy, "z"},
		{"SEQ(A+ a, !B b) WHERE a.x = b.x WITHIN 1099511627777 PARTITION BY z RETURN TRUE", inWhere(api.ErrMix, 2), "= b.x"},
	})
}

package show_test

import (
	"fmt"
	"reflect"
	"slices"
	"strings"
	"testing"

	"sluice/api"
	"sluice/lex"
	"sluice/parse"
	"sluice/show"
)

// layouts: all texts of a term in which each operand stands in brackets or not.
func layouts(x term) []string {
	var out []string
	switch len(x.parts) {
	case 0:
		out = append(out, plain(x))
	case 1:
		for _, a := range inBracketsOrNot(x.parts[0]) {
			out = append(out, spellings[x.op]+" "+a)
		}
	case 2:
		for _, a := range inBracketsOrNot(x.parts[0]) {
			for _, b := range inBracketsOrNot(x.parts[1]) {
				out = append(out, a+" "+spellings[x.op]+" "+b)
			}
		}
	}
	return out
}

func inBracketsOrNot(x term) []string {
	var out []string
	for _, l := range layouts(x) {
		out = append(out, l, "( "+l+" )")
	}
	return out
}

func tokens(text string) int { return len(strings.Fields(text)) }

// fewest: of the texts of which parse answers the term's tree the one with the fewest tokens; there is just one.
func fewest(t *testing.T, x term) string {
	t.Helper()
	var best []string
	for _, text := range layouts(x) {
		list, _, code, _ := parse.Expr(text)
		if code != api.OK || !slices.Equal(list, nodes(x)) {
			continue
		}
		if len(best) > 0 && tokens(text) < tokens(best[0]) {
			best = nil
		}
		if len(best) == 0 || tokens(text) == tokens(best[0]) {
			best = append(best, text)
		}
	}
	if len(best) != 1 {
		t.Fatalf("5.6: the shortest texts of %+v: %q", x, best)
	}
	return best[0]
}

// around: the operator over the term, on each side of it that there is.
func around(op api.Op, x term) []term {
	if slices.Contains(unary, op) {
		return []term{of(op, x)}
	}
	return []term{of(op, x, num(8)), of(op, num(9), x)}
}

func TestEveryOperatorWithinEveryOther(t *testing.T) {
	for _, outer := range slices.Concat(unary, binary) {
		for _, inner := range slices.Concat(unary, binary) {
			x := of(inner, num(1), leaf(api.OpAttr, "a", "x"))
			if slices.Contains(unary, inner) {
				x = of(inner, num(1))
			}
			for _, both := range around(outer, x) {
				expectExpr(t, nodes(both), told{text: fewest(t, both)})
				readAndPrinted(t, layouts(both))
			}
		}
	}
}

// readAndPrinted: each text that parse reads is printed, with no more tokens, and read again as what it was.
func readAndPrinted(t *testing.T, texts []string) {
	t.Helper()
	for _, text := range texts {
		list, _, code, _ := parse.Expr(text)
		if code != api.OK {
			continue
		}
		got := exprOf(list)
		back, _, again, _ := parse.Expr(got.text)
		if !show.Tree(list) || got.code != api.OK || tokens(got.text) > tokens(text) || again != api.OK || !slices.Equal(back, list) {
			t.Errorf("5.6: %q is read, and printed as %q, %d", text, got.text, got.code)
		}
	}
}

func TestThreeOperators(t *testing.T) {
	some := []api.Op{api.OpOr, api.OpAnd, api.OpNot, api.OpGe, api.OpAdd, api.OpSub, api.OpMod, api.OpNeg}
	for _, a := range some {
		for _, b := range some {
			for _, c := range some {
				for _, x := range around(c, num(1)) {
					for _, y := range around(b, x) {
						for _, z := range around(a, y) {
							expectExpr(t, nodes(z), told{text: fewest(t, z)})
						}
					}
				}
				if len(around(a, num(1))) == 2 {
					z := of(a, around(b, num(1))[0], around(c, num(2))[0])
					expectExpr(t, nodes(z), told{text: fewest(t, z)})
				}
			}
		}
	}
}

// isCanonical: does the text stand as lex writes tokens?
func isCanonical(text string) bool {
	list, code, _ := lex.Lex(text)
	return code == api.OK && lex.Join(list) == text
}

func TestTreesThatArePrintedAreReadAgain(t *testing.T) {
	pick := scatter()
	for range 5000 {
		x := grown(pick(20), 2, pick)
		got, want := exprOf(nodes(x)), wordsOf(x, 0, never)
		back, _, code, _ := parse.Expr(got.text)
		if got != (told{text: want}) || code != api.OK || !slices.Equal(back, nodes(x)) || !isCanonical(got.text) {
			t.Fatalf("5.5: %+v is printed as %q, %d, and read as %+v, %d", x, got.text, got.code, back, code)
		}
	}
}

func TestQueriesThatArePrintedAreReadAgain(t *testing.T) {
	pick := scatter()
	for range 5000 {
		a := grownQuery(8, pick)
		q := a.query()
		got := printOf(q)
		back, _, code, _ := parse.Parse(got.text)
		if !show.Shaped(q) || got != (told{text: a.words(never)}) || code != api.OK || !alike(back, q) || !isCanonical(got.text) {
			t.Fatalf("5.5: %+v is printed as %q, %d, and read as %+v, %d", q, got.text, got.code, back, code)
		}
	}
}

// laid: the words in some layout, keywords in letters of some case, numbers with zeros ahead.
func laid(words string, pick func(int) int) string {
	gaps := []string{" ", "\n", "\t \r", " # a ( comment &\n", "  "}
	var out strings.Builder
	for _, w := range strings.Fields(words) {
		if lex.Word(w) != api.KindName && pick(2) == 0 {
			w = strings.ToLower(w)
		}
		if w[0] >= '0' && w[0] <= '9' {
			w = strings.Repeat("0", pick(3)) + w
		}
		out.WriteString(w + gaps[pick(len(gaps))])
	}
	return out.String()
}

func TestQueriesThatAreReadArePrinted(t *testing.T) {
	pick := scatter()
	sometimes := func() bool { return pick(4) == 0 }
	read := 0
	for range 3000 {
		a := grownQuery(6, pick)
		want := told{text: a.words(never)}
		for range 4 {
			words := a.words(sometimes)
			q, _, code, _ := parse.Parse(laid(words, pick))
			if code == api.ErrDeep || code == api.ErrTokens {
				continue
			}
			read++
			got := printOf(q)
			if code != api.OK || !show.Shaped(q) || got != want || tokens(got.text) > tokens(words) {
				t.Fatalf("5.6: %q is read (%d), and printed as %q, %d, want %q", words, code, got.text, got.code, want.text)
			}
		}
		for _, x := range append(a.where, a.ret...) {
			words := wordsOf(x, 0, sometimes)
			readAndPrinted(t, []string{words})
		}
	}
	if read < 10000 {
		t.Errorf("5.6: of the texts %d are read: too few", read)
	}
}

// TestSamePrintsSameQueries: over all short texts of some words, the prints are the same just if the queries are.
func TestSamePrintsSameQueries(t *testing.T) {
	byPrint, byQuery := map[string]string{}, map[string]string{}
	meet := func(print, query string) {
		if p, ok := byQuery[query]; ok && p != print {
			t.Errorf("5.6: one query is printed as %q and as %q", p, print)
		}
		if q, ok := byPrint[print]; ok && q != query {
			t.Errorf("5.6: two queries are printed as %q: %s, %s", print, q, query)
		}
		byPrint[print], byQuery[query] = query, print
	}
	wordRows(6, strings.Fields("1 ( ) - + NOT ="), func(text string) {
		if list, _, code, _ := parse.Expr(text); code == api.OK {
			meet(exprOf(list).text, fmt.Sprint(list))
			readAndPrinted(t, []string{text})
		}
	})
	whole := func(text string) {
		if q, _, code, _ := parse.Parse(text); code == api.OK {
			meet(printOf(q).text, fmt.Sprint(bare(reflect.ValueOf(q))))
		}
	}
	wordRows(6, strings.Fields("( ) | A + , a"), func(text string) { whole("PATTERN SEQ(" + text + ") WITHIN 1") })
	wordRows(5, strings.Fields("{ } , 1 4"), func(text string) { whole("PATTERN SEQ(A a" + text + ") WITHIN 1") })
	wordRows(4, strings.Fields("USING AFTER ANY NEXT STRICT ALL PAST ONCE WHERE TRUE"), func(text string) { whole("PATTERN SEQ(A a) " + text + "WITHIN 1") })
	wordRows(5, strings.Fields("1 PARTITION BY a RETURN , ( )"), func(text string) { whole("PATTERN SEQ(A a) WITHIN 7 " + text) })
	if len(byPrint) < 200 {
		t.Errorf("5.6: %d queries are told apart: too few", len(byPrint))
	}
}

// wordRows: all rows of up to n words, with blanks between.
func wordRows(n int, words []string, yield func(string)) {
	yield("")
	if n == 0 {
		return
	}
	for _, w := range words {
		wordRows(n-1, words, func(rest string) { yield(w + " " + rest) })
	}
}

package parse_test

import (
	"slices"
	"strconv"
	"strings"
	"testing"

	"sluice/api"
	"sluice/lex"
)

// derive: words of a text that derives from the rule, picked at random; ever plainer ones the deeper it gets.
func derive(all map[string]*part, p *part, depth int, pick func(int) int) []string {
	if p.word != "" && all[p.word] == nil {
		return []string{p.word}
	}
	if p.word != "" {
		return derive(all, all[p.word], depth+1, pick)
	}
	var out []string
	for more := !p.maybe || pick(4) == 0; more; more = p.again && pick(4) == 0 {
		row := p.rows[pick(len(p.rows))]
		if depth > 40 {
			row = p.rows[plainest(p.rows)]
		}
		for _, q := range row {
			out = append(out, derive(all, q, depth, pick)...)
		}
	}
	return out
}

// plainest: the first row that opens nothing.
func plainest(rows [][]*part) int {
	return slices.IndexFunc(rows, func(row []*part) bool {
		return !slices.ContainsFunc(row, func(p *part) bool { return p.word == "NOT" || p.word == "-" || p.word == "(" && row[1].word == "expr" })
	})
}

// filled: the words with names and numbers in their places.
func filled(words []string, pick func(int) int) []string {
	names := []string{"a", "b", "A", "_1", "ts", "withins", "abcdefghijklmnop"}
	out := slices.Clone(words)
	for i, w := range out {
		switch w {
		case "name":
			out[i] = names[pick(len(names))]
		case "number":
			out[i] = []string{"0", "1", "007", "9223372036854775807", strconv.Itoa(pick(1000))}[pick(5)]
		}
	}
	return out
}

// laid: the words in some layout, keywords in letters of some case.
func laid(words []string, pick func(int) int) string {
	gaps := []string{" ", "\n", "\t \r", "# a ( comment &\n", "  "}
	var out strings.Builder
	gap := func(needed bool) {
		if needed || pick(2) == 0 {
			out.WriteString(gaps[pick(len(gaps))])
		}
	}
	gap(false)
	for i, w := range words {
		if i > 0 {
			gap(joins(words[i-1]+w, len(words[i-1])))
		}
		if lex.Word(w) != api.KindName && pick(2) == 0 {
			w = strings.ToLower(w)
		}
		out.WriteString(w)
	}
	gap(false)
	if pick(4) == 0 {
		out.WriteString("# the end")
	}
	return out.String()
}

// joins: whether two words without a gap are other tokens than with one.
func joins(text string, seam int) bool {
	tokens, code, _ := lex.Lex(text)
	return code != api.OK || len(tokens) != 2 || tokens[1].At != seam
}

// changed: with a word left out, put in, put in another's place, or all behind it left out.
func changed(list []string, pick func(int) int) []string {
	at, w := pick(len(list)), words()[pick(len(words()))]
	switch pick(4) {
	case 0:
		return slices.Delete(slices.Clone(list), at, at+1)
	case 1:
		return slices.Insert(slices.Clone(list), at, w)
	case 2:
		return slices.Replace(slices.Clone(list), at, at+1, w)
	}
	return list[:at]
}

func TestScatteredTexts(t *testing.T) {
	all, pick := rules(), scatter()
	longest, sound := 0, 0
	for range 2000 {
		expr := filled(derive(all, &part{word: "expr"}, 0, pick), pick)
		query := filled(derive(all, &part{word: "query"}, 0, pick), pick)
		judgeExpr(t, all, laid(expr, pick))
		judgeQuery(t, all, laid(query, pick))
		judgeExpr(t, all, laid(changed(expr, pick), pick))
		judgeQuery(t, all, laid(changed(query, pick), pick))
		longest = max(longest, len(query))
		if queryOf(strings.Join(query, " ")).code == api.OK {
			sound++
		}
	}
	if longest < 300 || sound < 1500 {
		t.Errorf("of the texts %d derive, the longest has %d words: too few, or too short", sound, longest)
	}
}

// byToken: places as the numbers of the tokens that stand there; the text's end is their number.
func byToken(tokens []api.Token, text string, places []int) []int {
	out := []int{}
	for _, p := range places {
		i := slices.IndexFunc(tokens, func(t api.Token) bool { return t.At == p })
		if i < 0 && p == len(text) {
			i = len(tokens)
		}
		out = append(out, i)
	}
	return out
}

// meant: what is said of a text, with tokens' numbers for places.
type meant struct {
	query api.Query
	nodes []api.Node
	code  api.Errno
	spots []int
	fault []int
}

func meaning(text string) (meant, meant) {
	tokens, _, _ := lex.Lex(text)
	e, q := exprOf(text), queryOf(text)
	places := slices.Concat(q.spots.Items, q.spots.Where, slices.Concat(q.spots.Ret...))
	if q.code == api.OK {
		places = append(places, q.spots.Within)
	}
	if q.query.By != "" {
		places = append(places, q.spots.By)
	}
	ofExpr := meant{nodes: e.nodes, code: e.code, spots: byToken(tokens, text, e.spots)}
	ofQuery := meant{query: q.query, code: q.code, spots: byToken(tokens, text, places)}
	if e.code != api.OK {
		ofExpr.fault = byToken(tokens, text, []int{e.at})
	}
	if q.code != api.OK {
		ofQuery.fault = byToken(tokens, text, []int{q.at})
	}
	return ofExpr, ofQuery
}

func TestLayoutMeansNothing(t *testing.T) {
	all, pick := rules(), scatter()
	for range 1000 {
		for _, rule := range []string{"expr", "query"} {
			list := filled(derive(all, &part{word: rule}, 0, pick), pick)
			for _, l := range [][]string{list, changed(list, pick), append([]string{"NOT", "("}, list...)} {
				if len(l) > api.MaxTokens {
					continue
				}
				one, other := laid(l, pick), strings.Join(l, "\n")
				e1, q1 := meaning(one)
				e2, q2 := meaning(other)
				if !same(e1, e2) {
					t.Errorf("4.9: Expr of %s: %+v, of %s: %+v", short(one), e1, short(other), e2)
				}
				if !same(q1, q2) {
					t.Errorf("4.9: Parse of %s: %+v, of %s: %+v", short(one), q1, short(other), q2)
				}
				if slices.Contains(e1.spots, -1) || slices.Contains(q1.spots, -1) || slices.Contains(e1.fault, -1) || slices.Contains(q1.fault, -1) {
					t.Errorf("4.7: %s: a place at which no token begins: %v, %v, %v, %v", short(one), e1.spots, q1.spots, e1.fault, q1.fault)
				}
			}
		}
	}
}

func TestShapeOfTrees(t *testing.T) {
	all, pick := rules(), scatter()
	for range 1000 {
		text := laid(filled(derive(all, &part{word: "expr"}, 0, pick), pick), pick)
		tokens, _, _ := lex.Lex(text)
		got := exprOf(text)
		if got.code != api.OK {
			continue
		}
		if len(got.nodes) != len(got.spots) || len(got.nodes) > len(tokens) {
			t.Errorf("4.7: %s: %d nodes, %d spots, %d tokens", short(text), len(got.nodes), len(got.spots), len(tokens))
		}
		for i, n := range got.nodes {
			switch {
			case n.Op <= api.OpPrev && (n.A != -1 || n.B != -1),
				(n.Op == api.OpNeg || n.Op == api.OpNot) && (n.A != i-1 || n.B != -1),
				n.Op >= api.OpAdd && (n.B != i-1 || n.A < 0 || n.A >= n.B):
				t.Errorf("4.6: %s: node %d is %+v", short(text), i, n)
			}
		}
	}
}

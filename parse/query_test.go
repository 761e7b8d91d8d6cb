package parse_test

import (
	"strings"
	"testing"

	"sluice/api"
)

func item(v string, lo, hi int, types ...string) api.Item {
	return api.Item{Types: types, Var: v, Lo: lo, Hi: hi}
}

func negated(v string, types ...string) api.Item {
	return api.Item{Neg: true, Types: types, Var: v, Lo: 1, Hi: 1}
}

func TestQueries(t *testing.T) {
	for _, c := range []struct {
		text  string
		query api.Query
		spots api.Spots
	}{
		{
			"PATTERN SEQ(A a, !B n, (C|D) c) USING NEXT WITHIN 10",
			api.Query{Items: []api.Item{item("a", 1, 1, "A"), negated("n", "B"), item("c", 1, 1, "C", "D")}, Mode: api.ModeNext, Within: 10},
			api.Spots{Items: []int{12, 17, 23}, Within: 50},
		},
		{
			"PATTERN SEQ(A+ a, B b{2,3}) WITHIN 0",
			api.Query{Items: []api.Item{item("a", 1, 4, "A"), item("b", 2, 3, "B")}},
			api.Spots{Items: []int{12, 18}, Within: 35},
		},
		{
			"PATTERN SEQ(A a) USING NEXT AFTER NEXT WITHIN 1",
			api.Query{Items: []api.Item{item("a", 1, 1, "A")}, Mode: api.ModeNext, After: api.AfterNext, Within: 1},
			api.Spots{Items: []int{12}, Within: 46},
		},
		{
			"pattern\tSeq (\n( A|B|A ) + ab,!(C )c , (D)d{0,0},E e{9,2})within 9223372036854775807",
			api.Query{Items: []api.Item{item("ab", 1, 4, "A", "B", "A"), negated("c", "C"), item("d", 0, 0, "D"), item("e", 9, 2, "E")}, Within: 1<<63 - 1},
			api.Spots{Items: []int{14, 29, 38, 48}, Within: 64},
		},
		{
			"PATTERN SEQ(A a, A a, A A) USING STRICT AFTER ONCE WHERE TRUE WITHIN 5 PARTITION BY by_ RETURN 1, a.x + 2, COUNT(a)",
			api.Query{
				Items: []api.Item{item("a", 1, 1, "A"), item("a", 1, 1, "A"), item("A", 1, 1, "A")}, Mode: api.ModeStrict, After: api.AfterOnce, Where: []api.Node{leaf(api.OpTrue)}, Within: 5, By: "by_",
				Ret: [][]api.Node{{num(1)}, {attr("a", "x"), num(2), two(api.OpAdd, 0, 1)}, {leaf(api.OpCount, "a")}},
			},
			api.Spots{Items: []int{12, 17, 22}, Where: []int{57}, Within: 69, By: 84, Ret: [][]int{{95}, {98, 104, 102}, {107}}},
		},
		{
			"PATTERN SEQ(A a) WITHIN 1 RETURN (TRUE)",
			api.Query{Items: []api.Item{item("a", 1, 1, "A")}, Within: 1, Ret: [][]api.Node{{leaf(api.OpTrue)}}},
			api.Spots{Items: []int{12}, Within: 24, Ret: [][]int{{34}}},
		},
		{
			"PATTERN SEQ(A a{9223372036854775807,0}) WITHIN 007 PARTITION BY ts",
			api.Query{Items: []api.Item{item("a", 1<<63-1, 0, "A")}, Within: 7, By: "ts"},
			api.Spots{Items: []int{12}, Within: 47, By: 64},
		},
	} {
		expectQuery(t, c.text, told{query: c.query, spots: c.spots})
	}
}

func TestUsingAndAfter(t *testing.T) {
	modes := []struct {
		text string
		mode api.Mode
	}{{"", api.ModeAny}, {" USING ANY", api.ModeAny}, {" using Next", api.ModeNext}, {" USING STRICT", api.ModeStrict}}
	afters := []struct {
		text  string
		after api.After
	}{{"", api.AfterAll}, {" AFTER ALL", api.AfterAll}, {" AFTER NEXT", api.AfterNext}, {" After pasT", api.AfterPast}, {" AFTER ONCE", api.AfterOnce}}
	for _, m := range modes {
		for _, a := range afters {
			text := "PATTERN SEQ(A a)" + m.text + a.text + " WITHIN 1"
			want := told{query: api.Query{Items: []api.Item{item("a", 1, 1, "A")}, Mode: m.mode, After: a.after, Within: 1}, spots: api.Spots{Items: []int{12}, Within: len(text) - 1}}
			expectQuery(t, text, want)
			if m.text != "" && a.text != "" {
				queryRefused(t, "PATTERN SEQ(A a)"+a.text+m.text+" WITHIN 1", api.ErrWord, 17+len(a.text))
			}
		}
	}
	for _, c := range []struct {
		clauses string
		at      int
	}{
		{"USING", 6}, {"USING ALL", 6}, {"USING PAST", 6}, {"USING ONCE", 6}, {"USING any_", 6}, {"USING 1", 6}, {"USING NEXT NEXT", 11}, {"USING ANY USING ANY", 10},
		{"AFTER", 6}, {"AFTER ANY", 6}, {"AFTER STRICT", 6}, {"AFTER a", 6}, {"AFTER ALL ALL", 10}, {"AFTER ALL AFTER ALL", 10}, {"AFTER PAST USING NEXT", 11},
		{"WHERE TRUE USING ANY", 11}, {"WHERE TRUE AFTER ALL", 11}, {"ANY", 0}, {"NEXT", 0}, {"ALL", 0},
	} {
		queryRefused(t, "PATTERN SEQ(A a) "+c.clauses+" WITHIN 1", api.ErrWord, 17+c.at)
	}
}

func TestQueriesThatDoNotDerive(t *testing.T) {
	for _, c := range []struct {
		items string
		at    int
	}{
		{"", 0}, {"A", 1}, {"A a,", 4}, {",A a", 0}, {"A a A b", 4}, {"A a,,B b", 4},
		{"!A+ n", 2}, {"!(A|B)+ n", 6}, {"! A n{1,1}", 5}, {"!!A n", 1}, {"!A", 2}, {"!", 1}, {"!n", 2}, {"A !n", 2}, {"A a!", 3}, {"A! a", 1},
		{"A+ a{1,4}", 4}, {"A++ a", 2}, {"A a+", 3}, {"+A a", 0}, {"A+", 2}, {"A+ {1,2} a", 3}, {"A{1,2} a", 1},
		{"A a{}", 4}, {"A a{1}", 5}, {"A a{1,}", 6}, {"A a{,2}", 4}, {"A a{1,2", 7}, {"A a{1 2}", 6}, {"A a{-1,2}", 4}, {"A a{1,-2}", 6}, {"A a{1,2}{1,2}", 8}, {"A a{1,2,3}", 7}, {"A a{b,2}", 4}, {"A a{TRUE,2}", 4}, {"A a{(1),2}", 4},
		{"() a", 1}, {"(A", 4}, {"(A|) a", 3}, {"(|A) a", 1}, {"(A,B) a", 2}, {"(A B) a", 3}, {"((A)) a", 1}, {"(A|(B)) a", 3}, {"(A|B", 6}, {"A|B a", 1}, {"(A+) a", 2}, {"(!A) a", 1}, {"(A)|B a", 3}, {"(A) (B) a", 4}, {"(A)", 3},
		{"1 a", 0}, {"A 1", 2}, {"A.x a", 1}, {"A a.x", 3}, {"A - a", 2}, {"A = a", 2},
	} {
		queryRefused(t, "PATTERN SEQ("+c.items+") WITHIN 1", api.ErrWord, 12+c.at)
	}
	for _, c := range []struct {
		text string
		at   int
	}{
		{"SEQ", 0}, {"PATTERN (A a) WITHIN 1", 8}, {"PATTERN SEQ A a WITHIN 1", 12}, {"PATTERN PATTERN SEQ(A a) WITHIN 1", 8}, {"a", 0}, {"(", 0}, {"1", 0},
		{"PATTERN SEQ(A a) 1", 17}, {"PATTERN SEQ(A a) WITHIN -1", 24}, {"PATTERN SEQ(A a) WITHIN (1)", 24}, {"PATTERN SEQ(A a) WITHIN a", 24}, {"PATTERN SEQ(A a) WITHIN 1 1", 26}, {"PATTERN SEQ(A a) WITHIN 1 + 1", 26}, {"PATTERN SEQ(A a) WITHIN 1 WITHIN 1", 26}, {"PATTERN SEQ(A a)) WITHIN 1", 16},
		{"PATTERN SEQ(A a) WHERE WITHIN 1", 23}, {"PATTERN SEQ(A a) WHERE TRUE, TRUE WITHIN 1", 27}, {"PATTERN SEQ(A a) WHERE TRUE WHERE TRUE WITHIN 1", 28}, {"PATTERN SEQ(A a) WHERE TRUE) WITHIN 1", 27}, {"PATTERN SEQ(A a) WHERE (TRUE WITHIN 1", 29}, {"PATTERN SEQ(A a) WHERE TRUE PARTITION BY k WITHIN 1", 28}, {"PATTERN SEQ(A a) WHERE 1 = 2 = 3 WITHIN 1", 29}, {"PATTERN SEQ(A a) WITHIN 1 WHERE TRUE", 26},
		{"PATTERN SEQ(A a) WITHIN 1 PARTITION k", 36}, {"PATTERN SEQ(A a) WITHIN 1 BY k", 26}, {"PATTERN SEQ(A a) WITHIN 1 PARTITION BY 1", 39}, {"PATTERN SEQ(A a) WITHIN 1 PARTITION BY a.k", 40}, {"PATTERN SEQ(A a) WITHIN 1 PARTITION BY k, l", 40}, {"PATTERN SEQ(A a) WITHIN 1 PARTITION BY k PARTITION BY k", 41}, {"PATTERN SEQ(A a) WITHIN 1 PARTITION BY (k)", 39},
		{"PATTERN SEQ(A a) WITHIN 1 RETURN", 32}, {"PATTERN SEQ(A a) WITHIN 1 RETURN 1,", 35}, {"PATTERN SEQ(A a) WITHIN 1 RETURN ,1", 33}, {"PATTERN SEQ(A a) WITHIN 1 RETURN 1 2", 35}, {"PATTERN SEQ(A a) WITHIN 1 RETURN 1 PARTITION BY k", 35}, {"PATTERN SEQ(A a) WITHIN 1 RETURN 1 RETURN 2", 35}, {"PATTERN SEQ(A a) WITHIN 1 RETURN 1, 2)", 37}, {"PATTERN SEQ(A a) WITHIN 1 RETURN a", 34}, {"PATTERN SEQ(A a) WITHIN 1 PATTERN SEQ(A a) WITHIN 1", 26},
	} {
		queryRefused(t, c.text, api.ErrWord, c.at)
	}
}

func TestKeywordsAreNoNames(t *testing.T) {
	for _, k := range api.Keywords {
		for _, w := range []string{k, strings.ToLower(k), k[:1] + strings.ToLower(k[1:])} {
			queryRefused(t, "PATTERN SEQ("+w+" a) WITHIN 1", api.ErrWord, 12)
			queryRefused(t, "PATTERN SEQ(A "+w+") WITHIN 1", api.ErrWord, 14)
			queryRefused(t, "PATTERN SEQ((A|"+w+") a) WITHIN 1", api.ErrWord, 15)
			queryRefused(t, "PATTERN SEQ(A+ "+w+") WITHIN 1", api.ErrWord, 15)
			queryRefused(t, "PATTERN SEQ(!"+w+" a) WITHIN 1", api.ErrWord, 13)
			queryRefused(t, "PATTERN SEQ(A a) WITHIN 1 PARTITION BY "+w, api.ErrWord, 39)
			exprRefused(t, "a."+w, api.ErrWord, 2)
			exprRefused(t, "COUNT("+w+")", api.ErrWord, 6)
			exprRefused(t, "SUM("+w+".x)", api.ErrWord, 4)
			exprRefused(t, "SUM(a."+w+")", api.ErrWord, 6)
			name := w + "_"
			expectQuery(t, "PATTERN SEQ("+name+" "+name+") WITHIN 1 PARTITION BY "+name, told{
				query: api.Query{Items: []api.Item{item(name, 1, 1, name)}, Within: 1, By: name},
				spots: api.Spots{Items: []int{12}, Within: 22 + 2*len(name), By: 37 + 2*len(name)},
			})
		}
	}
}

func TestSeventyItems(t *testing.T) {
	kinds := []struct {
		text string
		item api.Item
	}{
		{"T v", item("v", 1, 1, "T")}, {"T+ v", item("v", 1, 4, "T")}, {"!T v", negated("v", "T")}, {"T v{7,70}", item("v", 7, 70, "T")}, {"(T)v", item("v", 1, 1, "T")},
	}
	var want told
	text := "PATTERN SEQ("
	for i := range 70 {
		if i > 0 {
			text += ", "
		}
		k := kinds[i%len(kinds)]
		want.spots.Items = append(want.spots.Items, len(text))
		want.query.Items = append(want.query.Items, k.item)
		text += k.text
	}
	text += ") WITHIN 1"
	want.query.Within, want.spots.Within = 1, len(text)-1
	expectQuery(t, text, want)
	queryRefused(t, strings.Replace(text, ") WITHIN", ",) WITHIN", 1), api.ErrWord, len(text)-9)
}

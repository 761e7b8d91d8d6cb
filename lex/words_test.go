package lex_test

import (
	"strings"
	"testing"

	"sluice/api"
	"sluice/lex"
)

// keywords: in the order of their kinds, from 30 on.
const keywords = "PATTERN SEQ USING ANY NEXT STRICT WHERE WITHIN PARTITION BY RETURN AND OR NOT TRUE FALSE COUNT SUM MIN MAX FIRST LAST PREV AFTER ALL PAST ONCE"

// cases: a word in letters of every case.
func cases(word string, yield func(string)) {
	for bits := range 1 << len(word) {
		b := []byte(word)
		for i := range b {
			if bits>>i&1 == 1 {
				b[i] += 'a' - 'A'
			}
		}
		yield(string(b))
	}
}

func TestWordOfKeywords(t *testing.T) {
	for i, keyword := range strings.Fields(keywords) {
		kind := api.Kind(30 + i)
		cases(keyword, func(s string) {
			if got := lex.Word(s); got != kind {
				t.Errorf("Word(%q) = %d, want %d", s, got, kind)
			}
			expect(t, " "+s+".", well(plain(kind, 1), plain(api.KindDot, 1+len(s))))
		})
		cases(keyword[1:], func(s string) {
			if got := lex.Word("x" + s); got != api.KindName {
				t.Errorf("Word(%q) = %d", "x"+s, got)
			}
		})
	}
	for _, c := range []struct {
		word string
		kind api.Kind
	}{
		{"pattern", api.KindPattern}, {"Seq", api.KindSeq}, {"uSING", api.KindUsing}, {"partition", api.KindPartition}, {"bY", api.KindBy}, {"Or", api.KindOr},
		{"prev", api.KindPrev}, {"after", api.KindAfter}, {"all", api.KindAll}, {"past", api.KindPast}, {"once", api.KindOnce}, {"within", api.KindWithin},
	} {
		if got := lex.Word(c.word); got != c.kind {
			t.Errorf("Word(%q) = %d, want %d", c.word, got, c.kind)
		}
	}
}

func TestWordOfOthers(t *testing.T) {
	for _, s := range []string{
		"", " ", "Within ", " WITHIN", "SE", "SEQS", "SEQSEQ", "a", "x1", "_", "12", "&", "(", "!=", "\x00", "#", "AND OR", "ts", "type", "o", "r", "abcdefghijklmnopq",
		"\u017fEQ", "LA\u017fT", "PA\u017fT", "\u017fUM", "SEQ\x00", "F\u0130RST", "M\u0131N", "\uff33\uff25\uff31", strings.Repeat("SEQ", 10000),
	} {
		if got := lex.Word(s); got != api.KindName {
			t.Errorf("Word(%q) = %d", s, got)
		}
	}
}

// TestWordNextToKeywords: a keyword with any one byte changed, left out or put in is a keyword just if its letters are those of one.
func TestWordNextToKeywords(t *testing.T) {
	kinds := map[string]api.Kind{}
	for i, keyword := range strings.Fields(keywords) {
		cases(keyword, func(s string) { kinds[s] = api.Kind(30 + i) })
	}
	try := func(s string) {
		want := kinds[s]
		if want == 0 {
			want = api.KindName
		}
		if got := lex.Word(s); got != want {
			t.Errorf("Word(%q) = %d, want %d", s, got, want)
		}
	}
	for _, keyword := range strings.Fields(keywords) {
		for i := range len(keyword) {
			try(keyword[:i] + keyword[i+1:])
			for b := range 256 {
				try(keyword[:i] + string([]byte{byte(b)}) + keyword[i+1:])
				try(keyword[:i] + string([]byte{byte(b)}) + keyword[i:])
				try(keyword + string([]byte{byte(b)}))
			}
		}
	}
}

func TestSpell(t *testing.T) {
	for _, c := range []struct {
		token api.Token
		want  string
	}{
		{named("ab", 3), "ab"}, {named("", 0), ""}, {named("a b&", -1), "a b&"}, {named("seq", 0), "seq"}, {named("\xff", 0), "\xff"},
		{api.Token{Kind: api.KindName, Text: "x", N: 5}, "x"},
		{number(0, 0), "0"}, {number(7, 9), "7"}, {number(-5, 0), "-5"}, {number(most, 0), "9223372036854775807"}, {number(-most-1, 0), "-9223372036854775808"},
		{api.Token{Kind: api.KindNumber, Text: "x", N: 4, At: -3}, "4"},
		{api.Token{Kind: api.KindDot, Text: "x", N: 4}, "."}, {api.Token{Kind: api.KindPast, Text: "x", N: 4, At: 1 << 62}, "PAST"},
		{plain(api.KindOpen, 0), "("}, {plain(api.KindBang, 0), "!"}, {plain(api.KindNe, 0), "!="}, {plain(api.KindLt, 0), "<"}, {plain(api.KindGe, 0), ">="},
		{plain(api.KindPattern, 0), "PATTERN"}, {plain(api.KindOnce, 0), "ONCE"},
	} {
		if got := lex.Spell(c.token); got != c.want {
			t.Errorf("Spell(%+v) = %q, want %q", c.token, got, c.want)
		}
	}
	for i, sign := range signNumbers {
		if got := lex.Spell(plain(api.Kind(3+i), i)); got != sign {
			t.Errorf("Spell of kind %d = %q, want %q", 3+i, got, sign)
		}
	}
	for i, keyword := range strings.Fields(keywords) {
		if got := lex.Spell(plain(api.Kind(30+i), i)); got != keyword {
			t.Errorf("Spell of kind %d = %q, want %q", 30+i, got, keyword)
		}
	}
	for _, kind := range []api.Kind{0, -1, 22, 23, 29, 57, 58, 1000, 1 << 62, -1 << 63, 1<<63 - 1, -1<<63 + 2} {
		if got := lex.Spell(api.Token{Kind: kind, Text: "x", N: 4}); got != "" {
			t.Errorf("Spell of kind %d = %q", kind, got)
		}
	}
}

func TestJoin(t *testing.T) {
	for _, c := range []struct {
		list []api.Token
		want string
	}{
		{nil, ""},
		{[]api.Token{}, ""},
		{[]api.Token{named("a", 7)}, "a"},
		{[]api.Token{plain(0, 0)}, ""},
		{[]api.Token{plain(0, 0), plain(99, 0)}, " "},
		{[]api.Token{plain(0, 0), named("", 0), plain(0, 0)}, "  "},
		{[]api.Token{plain(0, 0), number(-1, 0)}, " -1"},
		{[]api.Token{number(3, 9), plain(api.KindMinus, 1), number(4, 1)}, "3 - 4"},
		{[]api.Token{plain(api.KindCount, 0), plain(api.KindOpen, 0), named("a", 0), plain(api.KindClose, 0)}, "COUNT ( a )"},
		{[]api.Token{plain(api.KindLt, 0), plain(api.KindEq, 0), plain(api.KindLe, 0)}, "< = <="},
	} {
		if got := lex.Join(c.list); got != c.want {
			t.Errorf("Join(%+v) = %q, want %q", c.list, got, c.want)
		}
	}
	many := make([]api.Token, 200000)
	for i := range many {
		many[i] = number(1, 0)
	}
	if got := lex.Join(many); got != strings.Repeat("1 ", len(many)-1)+"1" {
		t.Errorf("Join of %d tokens has %d bytes", len(many), len(got))
	}
}

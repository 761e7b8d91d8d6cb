package event_test

import (
	"regexp"
	"slices"
	"strings"
	"testing"

	"sluice/api"
	"sluice/event"
)

// keywords: written out once more, so that a name is not asked of what the program asks.
var keywords = []string{
	"pattern", "seq", "using", "any", "next", "strict", "where", "within", "partition", "by", "return", "and", "or", "not",
	"true", "false", "count", "sum", "min", "max", "first", "last", "prev", "after", "all", "past", "once",
}

var nameShape = regexp.MustCompile(`\A[A-Za-z_][A-Za-z0-9_]{0,15}\z`)

// aName: what the chapter calls a name, by other means than the program's.
func aName(s string) bool { return nameShape.MatchString(s) && !slices.Contains(keywords, lowered(s)) }

func lowered(s string) string {
	b := []byte(s)
	for i, c := range b {
		if c >= 'A' && c <= 'Z' {
			b[i] = c + 32
		}
	}
	return string(b)
}

// casings: the word in letters of every case.
func casings(word string) []string {
	out := []string{""}
	for _, c := range word {
		var longer []string
		for _, s := range out {
			longer = append(longer, s+strings.ToLower(string(c)), s+strings.ToUpper(string(c)))
		}
		out = longer
	}
	return out
}

func TestNamesOfTheChapter(t *testing.T) {
	for s, want := range map[string]bool{
		"x_1": true, "1x": false, "": false, "With_in": true, "wIthin": false, "seq": false, "Seq": false, "SEQ": false,
		"seqs": true, "_seq": true, "abcdefghijklmnop": true, "abcdefghijklmnopq": false, "ts": true, "type": true,
	} {
		if got := event.IsName(s); got != want {
			t.Errorf("2.1: IsName(%q) = %v", s, got)
		}
	}
}

func TestNamesOfOneAndTwoBytes(t *testing.T) {
	for a := range 256 {
		one := string([]byte{byte(a)})
		if got := event.IsName(one); got != aName(one) {
			t.Errorf("2.1: IsName(%q) = %v", one, got)
		}
		for b := range 256 {
			two := string([]byte{byte(a), byte(b)})
			if got := event.IsName(two); got != aName(two) {
				t.Errorf("2.1: IsName(%q) = %v", two, got)
			}
		}
	}
}

func TestNamesByLength(t *testing.T) {
	for n := range 60 {
		for _, s := range []string{strings.Repeat("a", n), strings.Repeat("_", n), "Z" + strings.Repeat("9", n)} {
			if got, want := event.IsName(s), len(s) >= 1 && len(s) <= 16; got != want {
				t.Errorf("2.1: IsName(%q) = %v with %d bytes", s, got, len(s))
			}
		}
	}
	for n := 1; n <= 16; n++ {
		for at := range n {
			for _, wrong := range []string{" ", "-", ".", "\x00", "\x80", "\xff", "\n"} {
				s := strings.Repeat("a", at) + wrong + strings.Repeat("a", n-at-1)
				if event.IsName(s) {
					t.Errorf("2.1: IsName(%q)", s)
				}
			}
		}
	}
}

func TestNamesByCharacters(t *testing.T) {
	for _, s := range []string{"é", "aé", "日本", "a\u0660", "\u0661", "\u017feq", "see\u212a", "\ufffd", "a\ufffd", strings.Repeat("é", 8), strings.Repeat("é", 9)} {
		if event.IsName(s) {
			t.Errorf("2.1: IsName(%q)", s)
		}
	}
}

func TestKeywordsAreNoNames(t *testing.T) {
	if len(keywords) != len(api.Keywords) {
		t.Fatalf("there are %d keywords", len(api.Keywords))
	}
	for _, k := range keywords {
		for _, s := range casings(k) {
			if event.IsName(s) {
				t.Errorf("2.1: IsName(%q)", s)
			}
		}
		for _, s := range []string{k + "s", "_" + k, k + "_", k + "1", k[:1] + "_" + k[1:], k[:len(k)-1]} {
			if got := event.IsName(s); got != aName(s) {
				t.Errorf("2.1: IsName(%q) = %v", s, got)
			}
		}
	}
}

func TestCompare(t *testing.T) {
	at := func(ts int64, id uint64) api.Name { return api.Name{Ts: ts, Id: id} }
	// rising: every name is before all those behind it.
	rising := []api.Name{
		at(-1<<63, 0), at(-1<<63, 1<<64-1), at(api.MinTs, 0), at(api.MinTs, 1), at(-1, 0), at(-1, 1<<63), at(0, 0), at(0, 1),
		at(0, 1<<63-1), at(0, 1<<63), at(0, 1<<64-1), at(1, 0), at(3, 9), at(4, 1), at(4, 2), at(api.MaxTs, 5), at(1<<63-1, 0), at(1<<63-1, 1<<64-1),
	}
	for i, a := range rising {
		for j, b := range rising {
			want := 0
			if i < j {
				want = -1
			}
			if i > j {
				want = 1
			}
			if got := event.Compare(a, b); got != want {
				t.Errorf("2.10: Compare(%v, %v) = %d", a, b, got)
			}
		}
	}
}

package lex_test

import (
	"fmt"
	"slices"
	"strings"
	"sync"
	"testing"

	"sluice/api"
	"sluice/lex"
)

// answers: what every call of the layer says of these, as one text.
func answers(text string, list []api.Token) string {
	out := lexed(text).String() + fmt.Sprint(lex.Word(text)) + lex.Join(list)
	for _, t := range list {
		out += lex.Spell(t)
	}
	return out
}

// lists: of tokens, such as Lex gives and such as it never gives.
func lists() [][]api.Token {
	out := [][]api.Token{nil, {}, {{}}, {{}, {}}, {{Kind: -1 << 63, Text: "x", N: -1 << 63, At: -1 << 63}}, {{Kind: most, Text: "\xff", N: most, At: most}}}
	var every []api.Token
	for kind := api.Kind(-5); kind < 70; kind++ {
		every = append(every, api.Token{Kind: kind, Text: "t", N: -7, At: int(kind)})
	}
	return append(out, every, lexed("PATTERN SEQ(A a) WHERE a.x != 3 WITHIN 10").tokens)
}

// anyTexts: of any bytes.
func anyTexts() []string {
	out := append(texts(), strings.Repeat("a", 100000), strings.Repeat("\xff", 8193), strings.Repeat("1", 100000), strings.Repeat("# ", 50000))
	pick := scatter()
	for range 400 {
		b := make([]byte, pick(60))
		for i := range b {
			b[i] = byte(pick(256))
			if pick(3) > 0 {
				b[i] = "aZ_09 \n#<=!>.("[pick(14)]
			}
		}
		out = append(out, string(b))
	}
	return out
}

func TestEveryCallEnds(t *testing.T) {
	for _, text := range anyTexts() {
		got := lexed(text)
		if got.at < 0 || got.at > len(text) || got.code != api.OK && len(got.tokens) != 0 || got.code == api.OK && got.at != 0 {
			t.Errorf("P1: Lex(%s) = %.200v", short(text), got)
		}
		for _, list := range lists() {
			answers(text[:min(len(text), 100)], list)
		}
	}
}

func TestNilListsAreEmptyLists(t *testing.T) {
	if lex.Join(nil) != lex.Join([]api.Token{}) {
		t.Error("P1: nil and empty lists are joined otherwise")
	}
}

func TestWhatIsHandedInStays(t *testing.T) {
	for _, list := range lists() {
		roomy := make([]api.Token, len(list), len(list)+3)
		copy(roomy, list)
		lex.Join(roomy)
		if !slices.Equal(roomy, list) {
			t.Errorf("P2: %+v became %+v", list, roomy)
		}
		for _, behind := range roomy[len(list):cap(roomy)] {
			if behind != (api.Token{}) {
				t.Errorf("P2: the room behind a list has become %+v", behind)
			}
		}
	}
}

func TestWhatIsHandedOutIsNew(t *testing.T) {
	for _, text := range texts() {
		want, one, other := cut(text), lexed(text), lexed(text)
		for i := range one.tokens[:cap(one.tokens)] {
			one.tokens[:cap(one.tokens)][i] = api.Token{Kind: 99, Text: "w", N: 9, At: 9}
		}
		_ = append(one.tokens, api.Token{Kind: 98})
		if !other.is(want) || !lexed(text).is(want) {
			t.Errorf("P2: writing into one answer to %s changes others", short(text))
		}
	}
}

func TestSameArgumentsSameAnswers(t *testing.T) {
	all, tokens := anyTexts(), lists()
	tell := func() string {
		var out strings.Builder
		for i, text := range all {
			out.WriteString(answers(text, tokens[i%len(tokens)]))
		}
		return out.String()
	}
	want := tell()
	got := make([]string, 8)
	var group sync.WaitGroup
	for i := range got {
		group.Go(func() { got[i] = tell() })
	}
	group.Wait()
	for _, g := range append(got, tell()) {
		if g != want {
			t.Error("P3: the same arguments are answered otherwise")
		}
	}
}

package lex_test

import (
	"strings"
	"testing"

	"sluice/api"
	"sluice/event"
	"sluice/lex"
)

// given: a token that Lex could give, scattered.
func given(pick func(int) int) api.Token {
	names := []string{"a", "A", "_", "b_2", "abcdefghijklmnop", "seqs", "________________", "ts"}
	numbers := []int64{0, 1, 9, 10, 123456789, 1e18, most, most - 1}
	switch pick(4) {
	case 0:
		return named(names[pick(len(names))], 0)
	case 1:
		return number(numbers[pick(len(numbers))], 0)
	case 2:
		return plain(api.Kind(3+pick(19)), 0)
	}
	return plain(api.Kind(30+pick(27)), 0)
}

// placed: the tokens at the places that promise 3.1 asks of their joined text.
func placed(l []api.Token) []api.Token {
	var out []api.Token
	at := 0
	for _, t := range l {
		t.At = at
		out = append(out, t)
		at += len(lex.Spell(t)) + 1
	}
	return out
}

func TestBack(t *testing.T) {
	pick := scatter()
	for round := range 3000 {
		length := pick(12)
		if round%50 == 0 {
			length = 400 - pick(2)
		}
		l := make([]api.Token, length)
		for i := range l {
			l[i] = given(pick)
			l[i].At = pick(100) - 50
			if l[i].Kind == api.KindName && !event.IsName(l[i].Text) {
				t.Fatalf("%q is no name", l[i].Text)
			}
		}
		if text := lex.Join(l); !lexed(text).is(well(placed(l)...)) {
			t.Errorf("3.1: Lex(%q) = %v, want %+v", text, lexed(text), placed(l))
		}
	}
}

func TestBackOfTheLongest(t *testing.T) {
	l := make([]api.Token, 400)
	for i := range l {
		l[i] = number(most, 0)
	}
	expect(t, lex.Join(l), well(placed(l)...))
	expect(t, lex.Join(append(l, plain(api.KindDot, 0))), wrong(api.ErrTokens, 8000))
}

func TestBackOfEveryPair(t *testing.T) {
	all := []api.Token{named("x", 0), named("_9", 0), number(0, 0), number(most, 0)}
	for kind := range api.Kind(60) {
		if kind > 2 && lex.Spell(plain(kind, 0)) != "" {
			all = append(all, plain(kind, 0))
		}
	}
	if len(all) != 4+19+27 {
		t.Fatalf("%d tokens", len(all))
	}
	for _, a := range all {
		for _, b := range all {
			l := []api.Token{a, b}
			expect(t, lex.Join(l), well(placed(l)...))
		}
	}
}

// texts: of many kinds, taken and refused, short ones and one of each limit.
func texts() []string {
	out := []string{
		"", " ", "#", "# &", "#\xff\n", "a", "1", "!", "<", "=", "<=", "a b", "seq(", "12ab", "&", "a &", "é", "x#", "x # & y", "1_", "abcdefghijklmnopq", "\n\t\r", "007.8",
		"9223372036854775807", "9223372036854775808", "a - b\n& c", "# one\n# two", "  x", "# \n\n  1x",
		strings.Repeat("a ", 200), strings.Repeat("(", 200), strings.Repeat("<=", 400), strings.Repeat("a ", 401), strings.Repeat(" ", 4000), strings.Repeat("a ", 399),
	}
	pick := scatter()
	good, bad := pieces(), badPieces()
	for range 120 {
		text := ""
		for range pick(9) {
			text += good[pick(len(good))] + strings.Repeat(" ", pick(2))
		}
		if pick(4) == 0 {
			text += bad[pick(len(bad))] + good[pick(len(good))]
		}
		out = append(out, text)
	}
	return out
}

func shifted(l []api.Token, by int) []api.Token {
	var out []api.Token
	for _, t := range l {
		t.At += by
		out = append(out, t)
	}
	return out
}

func TestSeam(t *testing.T) {
	for _, a := range texts() {
		of := lexed(a)
		for _, b := range texts() {
			joined := a + "\n" + b
			if len(joined) > 8192 {
				continue
			}
			then, got := lexed(b), lexed(joined)
			switch {
			case of.code != api.OK:
				if !got.is(of) {
					t.Errorf("3.2: Lex(%s) = %.200v, but its beginning's is %.200v", short(joined), got, of)
				}
			case then.code != api.OK && len(of.tokens) == 0:
				if !got.is(wrong(then.code, then.at+len(a)+1)) {
					t.Errorf("3.2: Lex(%s) = %.200v, but its end's is %.200v", short(joined), got, then)
				}
			case then.code == api.OK && len(of.tokens)+len(then.tokens) <= 400:
				if !got.is(well(append(of.tokens[:len(of.tokens):len(of.tokens)], shifted(then.tokens, len(a)+1)...)...)) {
					t.Errorf("3.2: Lex(%s) = %.200v, but its parts' are %.200v and %.200v", short(joined), got, of, then)
				}
			}
		}
	}
}

// bare: is it blanks and comments alone?
func bare(text string) bool { return len(gapShape.FindString(text)) == len(text) }

// covered: how many bytes of the text the token that begins it covers.
func covered(token api.Token, text string) int {
	if token.Kind == api.KindNumber {
		return len(text) - len(strings.TrimLeft(text, "0123456789"))
	}
	return len(lex.Spell(token))
}

func TestCover(t *testing.T) {
	for _, text := range texts() {
		end := 0
		for _, token := range lexed(text).tokens {
			if token.At < end || !bare(text[end:token.At]) {
				t.Fatalf("3.3: between %d and %d of %s stands %q", end, token.At, short(text), text[end:token.At])
			}
			length := covered(token, text[token.At:])
			written := text[token.At : token.At+length]
			spelled := lex.Spell(token)
			if token.Kind == api.KindNumber {
				written = strings.TrimLeft(written, "0")
				spelled = strings.TrimLeft(spelled, "0")
			}
			if token.Kind != api.KindName {
				written = strings.ToUpper(written)
			}
			if length < len(lex.Spell(token)) || written != spelled {
				t.Errorf("3.3: %+v of %s covers %q", token, short(text), written)
			}
			end = token.At + length
		}
		if lexed(text).code == api.OK && !bare(text[end:]) {
			t.Errorf("3.3: behind the last token of %s stands %q", short(text), text[end:])
		}
	}
}

func TestCaseOfKeywords(t *testing.T) {
	text := "PATTERN SEQ(A a, !B b) USING NEXT AFTER PAST WHERE NOT SUM(a.x) < 3 OR TRUE WITHIN 10 PARTITION BY k RETURN COUNT(a) # SEQ"
	want := lexed(text)
	pick := scatter()
	for range 300 {
		words := wordsIn.ReplaceAllStringFunc(text, func(word string) string {
			if lex.Word(word) == api.KindName {
				return word
			}
			b := []byte(word)
			for i := range b {
				b[i] ^= byte(pick(2)) << 5
			}
			return string(b)
		})
		expect(t, words, want)
	}
}

func TestCaseOfNames(t *testing.T) {
	expect(t, "a A", well(named("a", 0), named("A", 2)))
	expect(t, "Order ORDER order", well(named("Order", 0), named("ORDER", 6), named("order", 12)))
	if lexed("a").is(lexed("A")) {
		t.Error("3.4: a and A are one name")
	}
}

func TestCut(t *testing.T) {
	for _, text := range texts() {
		of := lexed(text)
		for i, token := range of.tokens {
			expect(t, text[:token.At], well(of.tokens[:i]...))
		}
		if of.code != api.OK && of.code != api.ErrLong {
			if got := lexed(text[:of.at]); got.code != api.OK || got.at != 0 {
				t.Errorf("3.5: ahead of the error at %d of %s: %.200v", of.at, short(text), got)
			}
		}
	}
	for _, bad := range badPieces() {
		text := "a.b<=10 # c\n" + bad
		if of := lexed(text); of.code != api.OK && (of.at != 12 || lexed(text[:of.at]).code != api.OK) {
			t.Errorf("3.5: %s: %v", short(text), of)
		}
	}
}

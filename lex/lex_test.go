package lex_test

import (
	"fmt"
	"math/big"
	"regexp"
	"slices"
	"strings"
	"testing"

	"sluice/api"
	"sluice/lex"
)

const most = 1<<63 - 1

func named(s string, at int) api.Token { return api.Token{Kind: api.KindName, Text: s, At: at} }

func number(n int64, at int) api.Token { return api.Token{Kind: api.KindNumber, N: n, At: at} }

func plain(k api.Kind, at int) api.Token { return api.Token{Kind: k, At: at} }

// answer: what Lex says of a text.
type answer struct {
	tokens []api.Token
	code   api.Errno
	at     int
}

func lexed(text string) answer {
	tokens, code, at := lex.Lex(text)
	return answer{tokens, code, at}
}

func well(tokens ...api.Token) answer { return answer{tokens: tokens} }

func wrong(code api.Errno, at int) answer { return answer{code: code, at: at} }

func (a answer) is(b answer) bool {
	return slices.Equal(a.tokens, b.tokens) && a.code == b.code && a.at == b.at
}

func (a answer) String() string { return fmt.Sprintf("%+v, %d at %d", a.tokens, int(a.code), a.at) }

// short: a text as it is told in a failure.
func short(text string) string {
	if len(text) > 100 {
		return fmt.Sprintf("%q.. (%d bytes)", text[:100], len(text))
	}
	return fmt.Sprintf("%q", text)
}

func expect(t *testing.T, text string, want answer) {
	t.Helper()
	if got := lexed(text); !got.is(want) {
		t.Errorf("Lex(%s) = %.300v, want %.300v", short(text), got, want)
	}
}

// scatter: numbers from 0 up to below n, scattered, the same in every run.
func scatter() func(n int) int {
	state := uint64(88172645463325252)
	return func(n int) int {
		state ^= state << 13
		state ^= state >> 7
		state ^= state << 17
		return int(state % uint64(n))
	}
}

// rows: all rows of up to n parts, glued.
func rows(n int, parts []string, yield func(string)) {
	yield("")
	if n == 0 {
		return
	}
	for _, part := range parts {
		rows(n-1, parts, func(rest string) { yield(part + rest) })
	}
}

func TestExamples(t *testing.T) {
	for _, c := range []struct {
		text string
		want answer
	}{
		{"", well()},
		{"a.x>=10", well(named("a", 0), plain(api.KindDot, 1), named("x", 2), plain(api.KindGe, 3), number(10, 5))},
		{"Seq Sequel", well(plain(api.KindSeq, 0), named("Sequel", 4))},
		{"1 # one & two", well(number(1, 0))},
		{"1 & # two", wrong(api.ErrByte, 2)},
		{"12ab", wrong(api.ErrNumber, 0)},
		{"a1234567890123456", wrong(api.ErrName, 0)},
		{"a - 9223372036854775808", wrong(api.ErrNumber, 4)},
		{"!=! =", well(plain(api.KindNe, 0), plain(api.KindBang, 2), plain(api.KindEq, 4))},
		{"-5", well(plain(api.KindMinus, 0), number(5, 1))},
		{"!\na", well(plain(api.KindBang, 0), named("a", 2))},
		{"a.b", well(named("a", 0), plain(api.KindDot, 1), named("b", 2))},
		{"3-4", well(number(3, 0), plain(api.KindMinus, 1), number(4, 2))},
		{"x#y", well(named("x", 0))},
		{"<=", well(plain(api.KindLe, 0))},
		{"< =", well(plain(api.KindLt, 0), plain(api.KindEq, 2))},
		{"==", well(plain(api.KindEq, 0), plain(api.KindEq, 1))},
		{"<>", well(plain(api.KindLt, 0), plain(api.KindGt, 1))},
		{"!!=", well(plain(api.KindBang, 0), plain(api.KindNe, 1))},
		{"007", well(number(7, 0))},
	} {
		expect(t, c.text, c.want)
	}
}

func TestBlanksAndCommentsAlone(t *testing.T) {
	everyByte := ""
	for b := range 256 {
		if b != '\n' {
			everyByte += string([]byte{byte(b)})
		}
	}
	for _, text := range []string{
		" ", "\t", "\n", "\r", " \t\n\r", "#", "##", "#\n", "# #\n#", "#a", "#&\n", "\n#1x", "#" + everyByte, "#" + everyByte + "\n", "#\r&\n", "#\x00\xff\xc3\n\t", "#é\n#\x80",
	} {
		expect(t, text, well())
		expect(t, text+"\nx", well(named("x", len(text)+1)))
	}
	expect(t, "#\r x", well())
	expect(t, "# a\n&", wrong(api.ErrByte, 4))
	expect(t, "1#\n2#\n3#", well(number(1, 0), number(2, 3), number(3, 6)))
	expect(t, "<#\n=", well(plain(api.KindLt, 0), plain(api.KindEq, 3)))
	expect(t, "a#\nb 1#\n2", well(named("a", 0), named("b", 3), number(1, 5), number(2, 8)))
}

func TestEveryByte(t *testing.T) {
	signs := map[byte]api.Kind{
		'(': api.KindOpen, ')': api.KindClose, '{': api.KindLBrace, '}': api.KindRBrace, ',': api.KindComma, '.': api.KindDot, '!': api.KindBang, '|': api.KindBar,
		'+': api.KindPlus, '-': api.KindMinus, '*': api.KindStar, '/': api.KindSlash, '%': api.KindPercent, '=': api.KindEq, '<': api.KindLt, '>': api.KindGt,
	}
	for i := range 256 {
		b, text := byte(i), string([]byte{byte(i)})
		want := wrong(api.ErrByte, 0)
		switch {
		case strings.Contains(" \t\n\r#", text):
			want = well()
		case b >= '0' && b <= '9':
			want = well(number(int64(b-'0'), 0))
		case b == '_' || b >= 'a' && b <= 'z' || b >= 'A' && b <= 'Z':
			want = well(named(text, 0))
		case signs[b] != 0:
			want = well(plain(signs[b], 0))
		}
		expect(t, text, want)
		if want.code == api.ErrByte {
			expect(t, "a "+text+" 1x", wrong(api.ErrByte, 2))
			expect(t, "a1"+text, wrong(api.ErrByte, 2))
			expect(t, "10"+text+"x", wrong(api.ErrByte, 2))
		}
	}
}

func TestLength(t *testing.T) {
	for _, fill := range []string{" ", "\n", "#", "&", "a", "0", "1", "(", "\xff"} {
		expect(t, strings.Repeat(fill, 8193), wrong(api.ErrLong, 8192))
		expect(t, strings.Repeat(fill, 20000), wrong(api.ErrLong, 8192))
	}
	expect(t, "& 1x"+strings.Repeat(" ", 8189), wrong(api.ErrLong, 8192))
	expect(t, strings.Repeat(" ", 8192), well())
	expect(t, strings.Repeat("#", 8192), well())
	expect(t, strings.Repeat(" ", 8191)+"x", well(named("x", 8191)))
	expect(t, strings.Repeat(" ", 8190)+">=", well(plain(api.KindGe, 8190)))
	expect(t, strings.Repeat(" ", 8191)+"&", wrong(api.ErrByte, 8191))
	expect(t, strings.Repeat("\xff", 8192), wrong(api.ErrByte, 0))
	expect(t, strings.Repeat("a", 8192), wrong(api.ErrName, 0))
	expect(t, strings.Repeat("9", 8192), wrong(api.ErrNumber, 0))
	expect(t, strings.Repeat("0", 8192), well(number(0, 0)))
	expect(t, strings.Repeat("0", 8190)+"42", well(number(42, 0)))
	expect(t, strings.Repeat("(", 8192), wrong(api.ErrTokens, 400))
}

func TestWordsAndTheirLength(t *testing.T) {
	for _, w := range []string{
		"a", "Z", "_", "__", "_0", "a_1", "x9y", "abcdefghijklmnop", "________________", "a123456789012345", "PATTERNPATTERNPA", "ts", "type", "sequ", "_SEQ", "SEQ_", "SEQ1",
	} {
		expect(t, w, well(named(w, 0)))
		expect(t, " "+w+"\t", well(named(w, 1)))
	}
	for _, w := range []string{"abcdefghijklmnopq", "_________________", "a1234567890123456", "PARTITIONPARTITION", strings.Repeat("SEQ", 100)} {
		expect(t, w, wrong(api.ErrName, 0))
		expect(t, "1 "+w+" &", wrong(api.ErrName, 2))
		expect(t, "& "+w, wrong(api.ErrByte, 0))
	}
	expect(t, "abcdefghijklmnop.abcdefghijklmnopq", wrong(api.ErrName, 17))
	expect(t, "abcdefghijklmnopé", wrong(api.ErrByte, 16))
	expect(t, "abcdefghijklmnopqé", wrong(api.ErrName, 0))
	expect(t, "a1 1", well(named("a1", 0), number(1, 3)))
}

func TestNumbers(t *testing.T) {
	for _, c := range []struct {
		text string
		n    int64
	}{
		{"0", 0}, {"00", 0}, {"1", 1}, {"10", 10}, {"999", 999}, {"9223372036854775807", most}, {"09223372036854775807", most}, {"9223372036854775799", most - 8},
		{"1000000000000000000", 1e18}, {strings.Repeat("0", 400) + "9223372036854775807", most}, {strings.Repeat("0", 60) + "12", 12},
	} {
		expect(t, c.text, well(number(c.n, 0)))
		expect(t, "("+c.text+".", well(plain(api.KindOpen, 0), number(c.n, 1), plain(api.KindDot, 1+len(c.text))))
	}
	for _, text := range []string{
		"9223372036854775808", "9223372036854775810", "9300000000000000000", "10000000000000000000", "18446744073709551615", "18446744073709551616", "18446744073709551617",
		"100000000000000000000", "0009223372036854775808", strings.Repeat("0", 400) + "9223372036854775808", strings.Repeat("9", 1000),
		"12ab", "3_", "0x1", "1e5", "00_", "1A", "1z", "1Z", "9223372036854775807a", "9223372036854775808_", "1seq",
	} {
		expect(t, text, wrong(api.ErrNumber, 0))
		expect(t, "a - "+text+" &", wrong(api.ErrNumber, 4))
		expect(t, "#"+text, well())
	}
	expect(t, "1 a", well(number(1, 0), named("a", 2)))
	expect(t, "1#a", well(number(1, 0)))
	expect(t, "1é", wrong(api.ErrByte, 1))
	expect(t, "1.5", well(number(1, 0), plain(api.KindDot, 1), number(5, 2)))
	expect(t, "-9223372036854775808", wrong(api.ErrNumber, 1))
}

func TestFourHundredTokens(t *testing.T) {
	for _, token := range []string{"a ", "1 ", "(", "<=", "!", "seq ", "a#\n"} {
		full := strings.Repeat(token, 400)
		at := len(full)
		for _, rest := range []string{"", " ", "\n\t", "# & 1x abcdefghijklmnopq", "#\n \r#\xff"} {
			if got := lexed(full + rest); got.code != api.OK || got.at != 0 || len(got.tokens) != 400 {
				t.Errorf("400 of %q and %q: %d tokens, %d at %d", token, rest, len(got.tokens), got.code, got.at)
			}
		}
		for _, next := range []string{"a", "1", "(", "<=", "!", "where", "x &", "1 &", "( 1x", "1&", "abcdefghijklmnop"} {
			expect(t, full+" "+next, wrong(api.ErrTokens, at+1))
			expect(t, full+"#\n"+next, wrong(api.ErrTokens, at+2))
		}
		for _, c := range []struct {
			next string
			code api.Errno
		}{
			{"&", api.ErrByte}, {"é", api.ErrByte}, {"\x00", api.ErrByte}, {"1x", api.ErrNumber}, {"9223372036854775808", api.ErrNumber}, {"abcdefghijklmnopq", api.ErrName},
		} {
			expect(t, full+" "+c.next+" a", wrong(c.code, at+1))
		}
	}
	expect(t, strings.Repeat("a ", 399)+"& b c", wrong(api.ErrByte, 798))
	expect(t, strings.Repeat("a ", 401), wrong(api.ErrTokens, 800))
}

func TestSignsSideBySide(t *testing.T) {
	kinds := map[string]api.Kind{
		"(": 3, ")": 4, "{": 5, "}": 6, ",": 7, ".": 8, "!": 9, "|": 10, "+": 11, "-": 12, "*": 13, "/": 14, "%": 15, "=": 16, "!=": 17, "<": 18, "<=": 19, ">": 20, ">=": 21,
	}
	for a, ka := range kinds {
		expect(t, a, well(plain(ka, 0)))
		for b, kb := range kinds {
			expect(t, a+" "+b, well(plain(ka, 0), plain(kb, len(a)+1)))
			if kinds[a+b[:1]] == 0 || len(a) == 2 {
				expect(t, a+b, well(plain(ka, 0), plain(kb, len(a))))
			} else if len(b) == 1 {
				expect(t, a+b, well(plain(kinds[a+b], 0)))
			}
		}
	}
	expect(t, "<==>=!=!==", well(plain(19, 0), plain(16, 2), plain(21, 3), plain(17, 5), plain(17, 7), plain(16, 9)))
}

var (
	gapShape    = regexp.MustCompile(`\A(?:[ \t\r\n]|#[^\n]*)*`)
	wordShape   = regexp.MustCompile(`\A[A-Za-z_][A-Za-z0-9_]*`)
	numberShape = regexp.MustCompile(`\A([0-9]+)([A-Za-z_]?)`)
	signShape   = regexp.MustCompile(`\A(?:[!<>]=|[(){},.!|+*/%=<>-])`)
	wordsIn     = regexp.MustCompile(`[A-Za-z_][A-Za-z0-9_]*`)
)

// cut: what the chapter asks of Lex, by patterns held against what is left of the text.
func cut(text string) answer {
	if len(text) > 8192 {
		return wrong(api.ErrLong, 8192)
	}
	var tokens []api.Token
	at := 0
	for {
		at += len(gapShape.FindString(text[at:]))
		if at == len(text) {
			return well(tokens...)
		}
		token, length, code := first(text[at:])
		if code == api.OK && len(tokens) == 400 {
			code = api.ErrTokens
		}
		if code != api.OK {
			return wrong(code, at)
		}
		token.At = at
		tokens = append(tokens, token)
		at += length
	}
}

var signNumbers = strings.Fields("( ) { } , . ! | + - * / % = != < <= > >=")

// first: the token at a text's beginning, how long it is, what is wrong with it.
func first(text string) (api.Token, int, api.Errno) {
	if word := wordShape.FindString(text); word != "" {
		if len(word) > 16 {
			return api.Token{}, 0, api.ErrName
		}
		if i := slices.Index(strings.Fields(keywords), strings.ToUpper(word)); i >= 0 {
			return plain(api.Kind(30+i), 0), len(word), api.OK
		}
		return named(word, 0), len(word), api.OK
	}
	if parts := numberShape.FindStringSubmatch(text); parts != nil {
		value, _ := new(big.Int).SetString(parts[1], 10)
		if parts[2] != "" || !value.IsInt64() {
			return api.Token{}, 0, api.ErrNumber
		}
		return number(value.Int64(), 0), len(parts[1]), api.OK
	}
	if sign := signShape.FindString(text); sign != "" {
		return plain(api.Kind(3+slices.Index(signNumbers, sign)), 0), len(sign), api.OK
	}
	return api.Token{}, 0, api.ErrByte
}

func TestAllShortTexts(t *testing.T) {
	var bytes []string
	for b := range 256 {
		bytes = append(bytes, string([]byte{byte(b)}))
	}
	rows(2, bytes, func(text string) { expect(t, text, cut(text)) })
	some := []string{"a", "B", "_", "0", "7", "!", "<", ">", "=", ".", "-", "#", "\n", " ", "&", "\xc3"}
	rows(4, some, func(text string) { expect(t, text, cut(text)) })
}

// pieces: of which scattered texts are made.
func pieces() []string {
	out := []string{
		"a", "_b1", "Zz", "abcdefghijklmnop", "0", "42", "0007", "9223372036854775807", " ", "  ", "\t", "\n", "\r", "# c & 1x\n", "#\n", "#\x00\xff\n", "seqs", "Within",
	}
	return append(append(out, signNumbers...), strings.Fields(keywords)...)
}

// badPieces: such as most often make an error.
func badPieces() []string {
	return []string{"&", "\"", "é", "\x00", "\xff", "1x", "2_", "9223372036854775808", "abcdefghijklmnopq", "#"}
}

func TestScatteredTexts(t *testing.T) {
	pick := scatter()
	good, bad := pieces(), badPieces()
	for round := range 6000 {
		text := ""
		for range pick(40) {
			text += good[pick(len(good))]
			if pick(3) > 0 {
				text += " "
			}
		}
		if round%2 == 1 {
			text += bad[pick(len(bad))] + good[pick(len(good))] + bad[pick(len(bad))]
		}
		expect(t, text, cut(text))
	}
}

func TestScatteredLongTexts(t *testing.T) {
	pick := scatter()
	good, bad := pieces(), badPieces()
	for range 300 {
		text := ""
		for range 350 + pick(100) {
			text += good[pick(len(good))] + []string{" ", "\n", "", "\t"}[pick(4)]
		}
		if pick(3) == 0 {
			text += bad[pick(len(bad))]
		}
		expect(t, text, cut(text))
	}
}

package event_test

import (
	"math/big"
	"regexp"
	"slices"
	"strconv"
	"strings"
	"testing"

	"sluice/api"
	"sluice/event"
)

const (
	least int64 = -1 << 63
	most  int64 = 1<<63 - 1
)

// market: the schema of the chapter's examples.
func market() api.Schema { return schemaOf(typed("Buy", "sym", "price"), typed("Halt")) }

// wide: a type for each number of attributes.
func wide() api.Schema {
	var s api.Schema
	for n := range 9 {
		s.Types = append(s.Types, typed("T"+strconv.Itoa(n), letters(n)...))
	}
	return s
}

func TestCheckEvent(t *testing.T) {
	for _, c := range []struct {
		e    api.Event
		code api.Errno
	}{
		{api.Event{Ts: -5, Id: 7, Type: 1}, api.OK},
		{api.Event{Ts: 10, Id: 1<<64 - 1, Attrs: [8]int64{most, least}}, api.OK},
		{api.Event{}, api.OK},
		{api.Event{Ts: api.MaxTs, Type: 1}, api.OK}, {api.Event{Ts: api.MaxTs + 1, Type: 1}, api.ErrRange}, {api.Event{Ts: most}, api.ErrRange},
		{api.Event{Ts: api.MinTs, Type: 1}, api.OK}, {api.Event{Ts: api.MinTs - 1, Type: 1}, api.ErrRange}, {api.Event{Ts: least}, api.ErrRange},
		{api.Event{Type: 2}, api.ErrType}, {api.Event{Type: -1}, api.ErrType}, {api.Event{Type: 1<<63 - 1}, api.ErrType}, {api.Event{Type: -1 << 63}, api.ErrType},
		{api.Event{Type: 2, Attrs: [8]int64{1}, Ts: most}, api.ErrType},
		{api.Event{Type: 1, Attrs: [8]int64{1}, Ts: most}, api.ErrAttrs},
		{api.Event{Attrs: [8]int64{1, 2, 3}, Ts: least}, api.ErrAttrs},
	} {
		if code := event.CheckEvent(market(), c.e); code != c.code {
			t.Errorf("2.7: CheckEvent(%+v) = %d, want %d", c.e, code, c.code)
		}
	}
}

func TestCheckEventByPlaces(t *testing.T) {
	s := wide()
	for n := range 9 {
		for place := range 8 {
			for _, v := range []int64{1, -1, least, most} {
				e := api.Event{Type: n}
				e.Attrs[place] = v
				want := api.OK
				if place >= n {
					want = api.ErrAttrs
				}
				if code := event.CheckEvent(s, e); code != want {
					t.Errorf("2.7: CheckEvent(%+v) with %d attributes = %d", e, n, code)
				}
			}
		}
	}
}

func TestEventsOfUnsoundSchemas(t *testing.T) {
	for _, c := range schemas() {
		if c.code == api.OK {
			continue
		}
		for _, e := range []api.Event{{}, {Type: -1}, {Ts: most}, {Attrs: [8]int64{0, 0, 0, 0, 0, 0, 0, 1}}} {
			if code := event.CheckEvent(c.s, e); code != c.code {
				t.Errorf("2.7: CheckEvent(%s) = %d, want %d", told(c.s), code, c.code)
			}
			if line, code := event.PrintEvent(c.s, e); line != "" || code != c.code {
				t.Errorf("2.9: PrintEvent(%s) = %q, %d, want %d", told(c.s), line, code, c.code)
			}
		}
		for _, line := range []string{"", "  x", "5 7 A", "5 7 Z"} {
			if e, code, at := event.ParseEvent(c.s, line); e != (api.Event{}) || code != c.code || at != 0 {
				t.Errorf("2.8: ParseEvent(%s, %q) = %+v, %d, %d, want %d", told(c.s), line, e, code, at, c.code)
			}
		}
	}
}

func wantLine(t *testing.T, s api.Schema, line string, want api.Event, wantCode api.Errno, wantAt int) {
	t.Helper()
	if e, code, at := event.ParseEvent(s, line); e != want || code != wantCode || at != wantAt {
		t.Errorf("2.8: ParseEvent(%.80q) = %+v, %d, %d, want %+v, %d, %d", line, e, code, at, want, wantCode, wantAt)
	}
}

func wantNoLine(t *testing.T, line string, code api.Errno, at int) {
	t.Helper()
	wantLine(t, market(), line, api.Event{}, code, at)
}

func TestLinesOfTheChapter(t *testing.T) {
	wantLine(t, market(), " 10 7  Buy 3 -04 ", api.Event{Ts: 10, Id: 7, Attrs: [8]int64{3, -4}}, api.OK, 0)
	wantLine(t, market(), "-5 07 Halt", api.Event{Ts: -5, Id: 7, Type: 1}, api.OK, 0)
	wantNoLine(t, "10 7 Buy 3", api.ErrAttrs, 10)
	wantNoLine(t, "10 7 Buy 3 4 5", api.ErrAttrs, 13)
	wantNoLine(t, "10 7 Buy 3 x", api.ErrLine, 11)
	wantNoLine(t, "5 -7 Halt", api.ErrLine, 2)
	wantNoLine(t, "5 7 Sell", api.ErrType, 4)
	wantNoLine(t, "5 7", api.ErrLine, 3)
	wantNoLine(t, "1152921504606846977 x Sell", api.ErrRange, 0)
	wantNoLine(t, "9223372036854775808 1 Halt", api.ErrLine, 0)
}

func TestLinesThatEndEarly(t *testing.T) {
	whole := " 10\t7  Buy 3 -04"
	for n, c := range []struct {
		code api.Errno
		at   int
	}{
		0: {api.ErrLine, 0}, 1: {api.ErrLine, 1}, 2: {api.ErrLine, 2}, 3: {api.ErrLine, 3}, 4: {api.ErrLine, 4}, 5: {api.ErrLine, 5}, 6: {api.ErrLine, 6}, 7: {api.ErrLine, 7},
		8: {api.ErrType, 7}, 9: {api.ErrType, 7}, 10: {api.ErrAttrs, 10}, 11: {api.ErrAttrs, 11}, 12: {api.ErrAttrs, 12}, 13: {api.ErrAttrs, 13}, 14: {api.ErrLine, 13},
	} {
		wantNoLine(t, whole[:n], c.code, c.at)
	}
	for n, value := range map[int]int64{15: 0, 16: -4} {
		wantLine(t, market(), whole[:n], api.Event{Ts: 10, Id: 7, Attrs: [8]int64{3, value}}, api.OK, 0)
	}
	wantNoLine(t, whole+"\t x y", api.ErrAttrs, 18)
	wantNoLine(t, "\t \t", api.ErrLine, 3)
	wantNoLine(t, "5 7 Halt 0", api.ErrAttrs, 9)
	wantNoLine(t, "5 7 Halt  \xff", api.ErrAttrs, 10)
}

func TestLinesByBlanks(t *testing.T) {
	halt := api.Event{Ts: 5, Id: 7, Type: 1}
	wantLine(t, market(), "\t 5\t\t7 \tHalt \t ", halt, api.OK, 0)
	for _, gap := range []string{"\n", "\r", "\v", "\f", "\u00a0", "\x00", "\u2003", "\xa0", "#", ","} {
		wantNoLine(t, "5 7 Halt"+gap, api.ErrType, 4)
		wantNoLine(t, gap+"5 7 Halt", api.ErrLine, 0)
		wantNoLine(t, "5"+gap+"7 Halt", api.ErrLine, 0)
		wantNoLine(t, "5 7"+gap+"Halt", api.ErrLine, 2)
	}
}

// place: which number of a line is tried, and the place of its word.
func numberPlaces(word string) []struct {
	line string
	at   int
} {
	return []struct {
		line string
		at   int
	}{{word + " 7 Halt", 0}, {"5 7 Buy " + word + " 2", 8}, {"5 7 Buy 2 " + word, 10}}
}

func TestNumbersThatAreNone(t *testing.T) {
	for _, word := range []string{
		"-", "--1", "+1", "+", "1-", "1.", ".1", "1e3", "0x1", "1_0", "0b1", "x", "1x", "x1", "\u0661", "1\u0661", "\uff11", "\xff", "-\xff", "1\x00", "'1'",
		"9223372036854775808", "-9223372036854775809", "18446744073709551615", "18446744073709551616", "-18446744073709551617", strings.Repeat("9", 40), "-" + strings.Repeat("9", 400),
	} {
		for _, c := range numberPlaces(word) {
			wantNoLine(t, c.line, api.ErrLine, c.at)
		}
	}
	for _, word := range []string{
		"-", "-0", "-7", "+7", "7.", "0x7", "7_0", "x", "\u0661", "\uff11", "7\xff", "18446744073709551616", "18446744073709551617", "99999999999999999999", strings.Repeat("9", 400),
	} {
		wantNoLine(t, "5 "+word+" Halt", api.ErrLine, 2)
		wantNoLine(t, "5 "+word+" Sell x y z", api.ErrLine, 2)
	}
}

func TestNumbersAtTheEnds(t *testing.T) {
	for word, n := range map[string]int64{
		"0": 0, "-0": 0, "00": 0, "-007": -7, "007": 7, "9223372036854775807": most, "-9223372036854775808": least, "0009223372036854775807": most,
		"-0009223372036854775808": least, strings.Repeat("0", 500) + "12": 12,
	} {
		wantLine(t, market(), "5 7 Buy "+word+" 2", api.Event{Ts: 5, Id: 7, Attrs: [8]int64{n, 2}}, api.OK, 0)
		wantLine(t, market(), "5 7 Buy 2 "+word, api.Event{Ts: 5, Id: 7, Attrs: [8]int64{2, n}}, api.OK, 0)
	}
	for word, n := range map[string]int64{
		"0": 0, "-0": 0, "01": 1, "1152921504606846976": api.MaxTs, "-1152921504606846976": api.MinTs, "-001152921504606846976": api.MinTs,
	} {
		wantLine(t, market(), word+" 7 Halt", api.Event{Ts: n, Id: 7, Type: 1}, api.OK, 0)
	}
	for _, word := range []string{"1152921504606846977", "-1152921504606846977", "9223372036854775807", "-9223372036854775808"} {
		wantNoLine(t, word+" 7 Halt", api.ErrRange, 0)
		wantNoLine(t, "  "+word, api.ErrRange, 2)
	}
	for word, id := range map[string]uint64{
		"0": 0, "00": 0, "007": 7, "9223372036854775807": 1<<63 - 1, "9223372036854775808": 1 << 63, "18446744073709551615": 1<<64 - 1, "00018446744073709551615": 1<<64 - 1,
	} {
		wantLine(t, market(), "5 "+word+" Halt", api.Event{Ts: 5, Id: id, Type: 1}, api.OK, 0)
	}
}

var (
	lineWord    = regexp.MustCompile(`[^ \t]+`)
	numberShape = regexp.MustCompile(`\A-?[0-9]+\z`)
	idShape     = regexp.MustCompile(`\A[0-9]+\z`)
)

func bigOf(shape *regexp.Regexp, word string) *big.Int {
	if !shape.MatchString(word) {
		return nil
	}
	n, _ := new(big.Int).SetString(word, 10)
	return n
}

// readByWords: what the chapter asks of ParseEvent over a sound schema, with the line cut into words ahead.
func readByWords(s api.Schema, line string) (api.Event, api.Errno, int) {
	spans := lineWord.FindAllStringIndex(line, -1)
	word := func(i int) (string, int) {
		if i >= len(spans) {
			return "", len(line)
		}
		return line[spans[i][0]:spans[i][1]], spans[i][0]
	}
	var e api.Event
	w, at := word(0)
	n := bigOf(numberShape, w)
	if n == nil || !n.IsInt64() {
		return api.Event{}, api.ErrLine, at
	}
	if n.Int64() < -1<<60 || n.Int64() > 1<<60 {
		return api.Event{}, api.ErrRange, at
	}
	e.Ts = n.Int64()
	w, at = word(1)
	if n = bigOf(idShape, w); n == nil || !n.IsUint64() {
		return api.Event{}, api.ErrLine, at
	}
	e.Id = n.Uint64()
	w, at = word(2)
	if w == "" {
		return api.Event{}, api.ErrLine, at
	}
	e.Type = slices.IndexFunc(s.Types, func(d api.TypeDef) bool { return d.Name == w })
	if e.Type == -1 {
		return api.Event{}, api.ErrType, at
	}
	count := len(s.Types[e.Type].Attrs)
	for i := range count {
		w, at = word(3 + i)
		if w == "" {
			return api.Event{}, api.ErrAttrs, at
		}
		if n = bigOf(numberShape, w); n == nil || !n.IsInt64() {
			return api.Event{}, api.ErrLine, at
		}
		e.Attrs[i] = n.Int64()
	}
	if w, at = word(3 + count); w != "" {
		return api.Event{}, api.ErrAttrs, at
	}
	return e, api.OK, 0
}

func holdLine(t *testing.T, s api.Schema, line string) {
	t.Helper()
	want, code, at := readByWords(s, line)
	wantLine(t, s, line, want, code, at)
}

func TestLinesByRows(t *testing.T) {
	s := market()
	words := []string{"5", "-6", "-", "x", "1152921504606846977", "9223372036854775808", "18446744073709551616", "Buy", "Halt", "Sell", "é\xff"}
	rows(words, 4, func(row []string) {
		holdLine(t, s, strings.Join(row, " "))
		holdLine(t, s, "5 7 Buy "+strings.Join(row, " "))
		holdLine(t, s, "\t5  7\tBuy 1 "+strings.Join(row, "\t ")+" ")
	})
}

func TestLinesByBytes(t *testing.T) {
	s := wide()
	pick := scatter()
	lines := []string{"5 7 T0", "-5 8 T1 -9", " 1152921504606846976 18446744073709551615 T8 1 2 3 4 -5 6 7 9223372036854775807"}
	for range 30000 {
		line := []byte(lines[pick(len(lines))])
		for range 1 + pick(3) {
			at := pick(len(line))
			switch pick(3) {
			case 0:
				line[at] = " \t-09x\xffT"[pick(8)]
			case 1:
				line = slices.Insert(line, at, byte(pick(256)))
			case 2:
				line = slices.Delete(line, at, at+1)
			}
		}
		holdLine(t, s, string(line))
	}
}

func TestPrintEvent(t *testing.T) {
	for _, c := range []struct {
		e    api.Event
		line string
		code api.Errno
	}{
		{api.Event{Ts: -5, Id: 7, Type: 1}, "-5 7 Halt", api.OK},
		{api.Event{}, "0 0 Buy 0 0", api.OK},
		{api.Event{Ts: 10, Id: 1<<64 - 1, Attrs: [8]int64{most, least}}, "10 18446744073709551615 Buy 9223372036854775807 -9223372036854775808", api.OK},
		{api.Event{Ts: api.MinTs, Id: 1 << 63, Type: 1}, "-1152921504606846976 9223372036854775808 Halt", api.OK},
		{api.Event{Ts: api.MaxTs, Type: 1}, "1152921504606846976 0 Halt", api.OK},
		{api.Event{Ts: api.MaxTs + 1, Type: 1}, "", api.ErrRange},
		{api.Event{Ts: api.MinTs - 1, Type: 1}, "", api.ErrRange},
		{api.Event{Type: 2, Ts: most}, "", api.ErrType},
		{api.Event{Type: -1}, "", api.ErrType},
		{api.Event{Type: 1, Attrs: [8]int64{1}, Ts: most}, "", api.ErrAttrs},
		{api.Event{Attrs: [8]int64{7: 1}}, "", api.ErrAttrs},
	} {
		if line, code := event.PrintEvent(market(), c.e); line != c.line || code != c.code {
			t.Errorf("2.9: PrintEvent(%+v) = %q, %d", c.e, line, code)
		}
	}
}

func TestPrintedEventsAreReadBack(t *testing.T) {
	s := wide()
	pick := scatter()
	for range 5000 {
		e := api.Event{Ts: int64(pick(1<<53)<<8) >> pick(60), Id: uint64(pick(1<<53)) << pick(30), Type: pick(9)}
		if pick(2) == 0 {
			e.Ts = -e.Ts
		}
		for i := range e.Type {
			e.Attrs[i] = int64(pick(1<<53)<<11|pick(1<<11)) >> pick(63)
		}
		line, code := event.PrintEvent(s, e)
		if want := event.CheckEvent(s, e); code != want {
			t.Errorf("2.9: PrintEvent(%+v): %d, want %d", e, code, want)
		}
		if code != api.OK {
			continue
		}
		wantLine(t, s, line, e, api.OK, 0)
		words := strings.Split(line, " ")
		if len(words) != 3+e.Type || words[2] != s.Types[e.Type].Name {
			t.Errorf("2.9: PrintEvent(%+v) = %q", e, line)
		}
		for i, w := range words {
			if digits := strings.TrimPrefix(w, "-"); i != 2 && (w == "-0" || len(digits) > 1 && digits[0] == '0') {
				t.Errorf("2.9: PrintEvent(%+v) = %q", e, line)
			}
		}
	}
}

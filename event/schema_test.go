package event_test

import (
	"fmt"
	"regexp"
	"slices"
	"strings"
	"testing"

	"sluice/api"
	"sluice/event"
)

func typed(name string, attrs ...string) api.TypeDef { return api.TypeDef{Name: name, Attrs: attrs} }

func schemaOf(types ...api.TypeDef) api.Schema { return api.Schema{Types: types} }

// told: a schema as a text in which nil and empty lists are the same.
func told(s api.Schema) string {
	out := ""
	for _, t := range s.Types {
		out += fmt.Sprintf("%q%q", t.Name, append([]string{}, t.Attrs...))
	}
	return out
}

func letters(n int) []string {
	var out []string
	for i := range n {
		out = append(out, string(rune('a'+i)))
	}
	return out
}

func types(n int) []api.TypeDef {
	var out []api.TypeDef
	for _, l := range letters(n) {
		out = append(out, typed(l))
	}
	return out
}

// manyTypes: the text of n definitions, each with a blank behind it.
func manyTypes(n int) string {
	out := ""
	for _, l := range letters(n) {
		out += "type " + l + "() "
	}
	return out
}

var pieceShape = regexp.MustCompile(`#[^\n]*|[A-Za-z0-9_]+|[ \t\r\n]+|(?s:.)`)

// readByStates: what the chapter asks of ParseSchema, as a machine that is fed with pieces.
func readByStates(text string) (api.Schema, api.Errno, int) {
	if len(text) > 4096 {
		return api.Schema{}, api.ErrSchemaLong, 4096
	}
	var out []api.TypeDef
	state := "begin"
	for _, span := range pieceShape.FindAllStringIndex(text, -1) {
		piece := text[span[0]:span[1]]
		if strings.Contains("# \t\r\n", piece[:1]) {
			continue
		}
		next, code := feed(&out, state, piece)
		if code != api.OK {
			return api.Schema{}, code, span[0]
		}
		state = next
	}
	if state != "begin" {
		return api.Schema{}, api.ErrSchemaWord, len(text)
	}
	if len(out) == 0 {
		return api.Schema{}, api.ErrSchemaTypes, len(text)
	}
	return api.Schema{Types: out}, api.OK, 0
}

var wordShape = regexp.MustCompile(`\A[A-Za-z_][A-Za-z0-9_]*\z`)

func feed(out *[]api.TypeDef, state, piece string) (string, api.Errno) {
	isWord := wordShape.MatchString(piece)
	switch state {
	case "begin":
		switch {
		case piece != "type":
			return "", api.ErrSchemaWord
		case len(*out) == 16:
			return "", api.ErrSchemaTypes
		}
		return "name", api.OK
	case "name":
		switch {
		case !isWord:
			return "", api.ErrSchemaWord
		case !aName(piece):
			return "", api.ErrSchemaName
		case slices.ContainsFunc(*out, func(d api.TypeDef) bool { return d.Name == piece }):
			return "", api.ErrSchemaTwice
		}
		*out = append(*out, typed(piece))
		return "open", api.OK
	case "open":
		if piece != "(" {
			return "", api.ErrSchemaWord
		}
		return "first", api.OK
	case "behind":
		switch piece {
		case ")":
			return "begin", api.OK
		case ",":
			return "attr", api.OK
		}
		return "", api.ErrSchemaWord
	}
	if state == "first" && piece == ")" {
		return "begin", api.OK
	}
	last := &(*out)[len(*out)-1]
	switch {
	case !isWord:
		return "", api.ErrSchemaWord
	case len(last.Attrs) == 8:
		return "", api.ErrSchemaAttrs
	case !aName(piece) || piece == "ts":
		return "", api.ErrSchemaName
	case slices.Contains(last.Attrs, piece):
		return "", api.ErrSchemaTwice
	}
	last.Attrs = append(last.Attrs, piece)
	return "behind", api.OK
}

func holdParse(t *testing.T, text string) {
	t.Helper()
	s, code, at := event.ParseSchema(text)
	wantS, wantCode, wantAt := readByStates(text)
	if told(s) != told(wantS) || code != wantCode || at != wantAt {
		t.Errorf("2.2: ParseSchema(%.80q) = %s, %d, %d, want %s, %d, %d", text, told(s), code, at, told(wantS), wantCode, wantAt)
	}
}

func wantParse(t *testing.T, text string, want api.Schema, wantCode api.Errno, wantAt int) {
	t.Helper()
	s, code, at := event.ParseSchema(text)
	if told(s) != told(want) || code != wantCode || at != wantAt {
		t.Errorf("2.2: ParseSchema(%.80q) = %s, %d, %d, want %s, %d, %d", text, told(s), code, at, told(want), wantCode, wantAt)
	}
	if code != api.OK && s.Types != nil {
		t.Errorf("2.2: ParseSchema(%.80q) answers types beside an error", text)
	}
}

func wantRefusal(t *testing.T, text string, code api.Errno, at int) {
	t.Helper()
	wantParse(t, text, api.Schema{}, code, at)
}

func TestSchemaTextsOfTheChapter(t *testing.T) {
	wantParse(t, "type Buy(sym,price)type Halt()", schemaOf(typed("Buy", "sym", "price"), typed("Halt")), api.OK, 0)
	wantParse(t, "type A(x) # type B(x)", schemaOf(typed("A", "x")), api.OK, 0)
	wantParse(t, "type ts(x)", schemaOf(typed("ts", "x")), api.OK, 0)
	wantRefusal(t, "", api.ErrSchemaTypes, 0)
	wantRefusal(t, " # a", api.ErrSchemaTypes, 4)
	wantRefusal(t, "type A(x", api.ErrSchemaWord, 8)
	wantRefusal(t, "type A(x,)", api.ErrSchemaWord, 9)
	wantRefusal(t, "type A(x) B(y)", api.ErrSchemaWord, 10)
	wantRefusal(t, "type 1B()", api.ErrSchemaWord, 5)
	wantRefusal(t, "type A(x);", api.ErrSchemaWord, 9)
	wantRefusal(t, "Type A()", api.ErrSchemaWord, 0)
	wantRefusal(t, "type A(ts)", api.ErrSchemaName, 7)
	wantRefusal(t, "type Seq(x)", api.ErrSchemaName, 5)
	wantRefusal(t, "type A(x, y, x)", api.ErrSchemaTwice, 13)
	wantRefusal(t, "type A() type A(", api.ErrSchemaTwice, 14)
}

func TestSchemaTextsInTheirOrder(t *testing.T) {
	wantParse(t, "type type(type, Ts, TS)type ts(tS)", schemaOf(typed("type", "type", "Ts", "TS"), typed("ts", "tS")), api.OK, 0)
	wantParse(t, "type b(z,y,x)type a(z)type A()type B(x,z)", schemaOf(typed("b", "z", "y", "x"), typed("a", "z"), typed("A"), typed("B", "x", "z")), api.OK, 0)
	wantParse(t, "type abcdefghijklmnop(abcdefghijklmnop)", schemaOf(typed("abcdefghijklmnop", "abcdefghijklmnop")), api.OK, 0)
	wantRefusal(t, "type abcdefghijklmnopq(x)", api.ErrSchemaName, 5)
	wantRefusal(t, "type A(abcdefghijklmnopq)", api.ErrSchemaName, 7)
	for _, k := range keywords {
		for _, s := range []string{k, strings.ToUpper(k), strings.ToUpper(k[:1]) + k[1:]} {
			wantRefusal(t, "type "+s+"()", api.ErrSchemaName, 5)
			wantRefusal(t, "type A(x, "+s+")", api.ErrSchemaName, 10)
		}
	}
}

func TestSchemaTextsByLimits(t *testing.T) {
	wantParse(t, manyTypes(16), api.Schema{Types: types(16)}, api.OK, 0)
	full := manyTypes(16)
	wantRefusal(t, full+"type q()", api.ErrSchemaTypes, len(full))
	wantRefusal(t, full+"type", api.ErrSchemaTypes, len(full))
	wantRefusal(t, full+"type 1", api.ErrSchemaTypes, len(full))
	wantRefusal(t, full+"typ", api.ErrSchemaWord, len(full))
	wantRefusal(t, full+"(", api.ErrSchemaWord, len(full))
	eight := "type A(a,b,c,d,e,f,g,h"
	wantParse(t, eight+")", schemaOf(typed("A", letters(8)...)), api.OK, 0)
	for behind, code := range map[string]api.Errno{
		",i)": api.ErrSchemaAttrs, ",ts)": api.ErrSchemaAttrs, ",a)": api.ErrSchemaAttrs, ",seq)": api.ErrSchemaAttrs, ",i": api.ErrSchemaAttrs,
		",1)": api.ErrSchemaWord, ",)": api.ErrSchemaWord, ",": api.ErrSchemaWord, ",(": api.ErrSchemaWord,
	} {
		wantRefusal(t, eight+behind, code, len(eight)+1)
	}
}

func TestSchemaTextsByLength(t *testing.T) {
	short := "type A()"
	one := schemaOf(typed("A"))
	for _, fill := range []string{" ", "\n", "#", "# \xff"} {
		gap := fill + strings.Repeat(fill[len(fill)-1:], 4096-len(short)-len(fill))
		wantParse(t, short+gap, one, api.OK, 0)
		wantRefusal(t, short+gap+" ", api.ErrSchemaLong, 4096)
	}
	wantRefusal(t, strings.Repeat(" ", 4096), api.ErrSchemaTypes, 4096)
	wantRefusal(t, strings.Repeat(" ", 4097), api.ErrSchemaLong, 4096)
	wantRefusal(t, ";"+strings.Repeat(" ", 4096), api.ErrSchemaLong, 4096)
	wantRefusal(t, strings.Repeat("é", 2049), api.ErrSchemaLong, 4096)
	wantRefusal(t, strings.Repeat("é", 2048), api.ErrSchemaWord, 0)
}

func TestSchemaTextsCutOff(t *testing.T) {
	wantRefusal(t, "type", api.ErrSchemaWord, 4)
	wantRefusal(t, "x", api.ErrSchemaWord, 0)
	whole := " type Ab ( x , y1 ) #c\ntype B()"
	sound := map[int]bool{}
	for n := len(" type Ab ( x , y1 )"); n <= len(" type Ab ( x , y1 ) #c\n"); n++ {
		sound[n] = true
	}
	sound[len(whole)] = true
	for n := range len(whole) + 1 {
		_, code, at := event.ParseSchema(whole[:n])
		switch {
		case sound[n]:
			if code != api.OK || at != 0 {
				t.Errorf("2.2: ParseSchema(%q): %d, %d", whole[:n], code, at)
			}
		case n < 2:
			wantRefusal(t, whole[:n], api.ErrSchemaTypes, n)
		case !strings.Contains(whole[:n], "type") || strings.HasSuffix(whole[:n], "\nt") || strings.HasSuffix(whole[:n], "\nty") || strings.HasSuffix(whole[:n], "\ntyp"):
			wantRefusal(t, whole[:n], api.ErrSchemaWord, strings.LastIndex(whole[:n], "t"))
		default:
			wantRefusal(t, whole[:n], api.ErrSchemaWord, n)
		}
	}
}

func TestSchemaTextsWithWrongBytes(t *testing.T) {
	for b := range 256 {
		c := string([]byte{byte(b)})
		for _, around := range [][2]string{{"", "type A(x)"}, {"type", "A(x)"}, {"type A", "(x)"}, {"type A(", "x)"}, {"type A(x", "y)"}, {"type A(x)", ""}, {"type A(x)", "\ntype B()"}} {
			holdParse(t, around[0]+c+around[1])
		}
		s, code, at := event.ParseSchema("type A(x # " + c + "\n) # " + c)
		if code != api.OK || at != 0 || told(s) != told(schemaOf(typed("A", "x"))) {
			t.Errorf("2.2: a comment with the byte %d: %s, %d, %d", b, told(s), code, at)
		}
	}
	wantRefusal(t, "type A(é)", api.ErrSchemaWord, 7)
	wantRefusal(t, "type Aé()", api.ErrSchemaWord, 6)
	wantRefusal(t, "type \u00a0A()", api.ErrSchemaWord, 5)
	wantRefusal(t, "type A()\x00", api.ErrSchemaWord, 8)
	wantRefusal(t, "\ufefftype A()", api.ErrSchemaWord, 0)
	wantParse(t, "type A(x)#日本\u2028;\xe6\ntype B()", schemaOf(typed("A", "x"), typed("B")), api.OK, 0)
	wantParse(t, "type#\xe6\xff#)\nA#\r(\n(#\x00\nx,\r\ny)", schemaOf(typed("A", "x", "y")), api.OK, 0)
	wantRefusal(t, "type A(x # é\n; y)", api.ErrSchemaWord, 14)
}

// rows: all rows of the pieces, up to that many.
func rows(pieces []string, most int, each func(row []string)) {
	var grow func(row []string)
	grow = func(row []string) {
		each(row)
		if len(row) == most {
			return
		}
		for _, p := range pieces {
			grow(append(slices.Clone(row), p))
		}
	}
	grow(nil)
}

func TestSchemaTextsByRows(t *testing.T) {
	pieces := []string{"type", "A", "b", "ts", "By", "1", "(", ")", ",", "é"}
	ahead := []string{"", "type A(", "type A(b", "type A(b, c,", "type b() type A(c) type ", manyTypes(15), manyTypes(16), "type A(c,d,e,f,g,h,i", "type A(c,d,e,f,g,h,i,j"}
	rows(pieces, 4, func(row []string) {
		for _, text := range ahead {
			holdParse(t, strings.TrimPrefix(text+" "+strings.Join(row, " "), " "))
		}
	})
	rows(append(pieces, " ", "#", "\n"), 4, func(row []string) { holdParse(t, "type A(c"+strings.Join(row, "")) })
}

func TestSchemaTextsWithGaps(t *testing.T) {
	gaps := []string{" ", "\t", "\n", "\r", "\r\n", "  ", "#\n", "# type B(x)\n", "#é\xff\x00(),#\n\t", " #\r\n"}
	pick := scatter()
	for range 3000 {
		text, tight := "", []string{"type", "Buy", "(", "sym", ",", "price", ")", "type", "Halt", "(", ")"}
		for _, p := range tight {
			text += gaps[pick(len(gaps))] + p
			if pick(3) == 0 {
				text += gaps[pick(len(gaps))]
			}
		}
		text += []string{"", " ", "#", "# é\xff"}[pick(4)]
		wantParse(t, text, schemaOf(typed("Buy", "sym", "price"), typed("Halt")), api.OK, 0)
		cut := pick(len(text))
		holdParse(t, text[:cut])
		holdParse(t, text[cut:])
		holdParse(t, text[:cut]+string([]byte{byte(pick(256))})+text[cut:])
	}
}

// scatter: numbers below a bound from a fixed rule, so that a run can be repeated.
func scatter() func(below int) int {
	x := uint64(88172645463325252)
	return func(below int) int {
		x ^= x << 13
		x ^= x >> 7
		x ^= x << 17
		return int((x >> 11) % uint64(below))
	}
}

// schemas: unsound and sound ones, with what CheckSchema must answer.
func schemas() []struct {
	s    api.Schema
	code api.Errno
} {
	nine := append(letters(8), "ts")
	cases := []struct {
		s    api.Schema
		code api.Errno
	}{
		{schemaOf(typed("Buy", "sym", "price"), typed("Halt")), api.OK},
		{schemaOf(), api.ErrSchemaTypes},
		{api.Schema{Types: []api.TypeDef{}}, api.ErrSchemaTypes},
		{schemaOf(types(1)...), api.OK},
		{schemaOf(types(16)...), api.OK},
		{schemaOf(types(17)...), api.ErrSchemaTypes},
		{schemaOf(make([]api.TypeDef, 17)...), api.ErrSchemaTypes},
		{schemaOf(make([]api.TypeDef, 16)...), api.ErrSchemaName},
		{schemaOf(typed("A", nine[:8]...)), api.OK},
		{schemaOf(typed("A", letters(9)...)), api.ErrSchemaAttrs},
		{schemaOf(typed("A", make([]string, 9)...)), api.ErrSchemaAttrs},
		{schemaOf(typed("A", make([]string, 8)...)), api.ErrSchemaName},
		{schemaOf(typed("A"), typed("A", nine...)), api.ErrSchemaTwice},
		{schemaOf(typed("1"), typed("1", nine...)), api.ErrSchemaName},
		{schemaOf(typed("A"), typed("seq", nine...)), api.ErrSchemaName},
		{schemaOf(typed("A", nine...), typed("A")), api.ErrSchemaAttrs},
		{schemaOf(typed("A", "x", "x"), typed("1")), api.ErrSchemaTwice},
		{schemaOf(typed("A", "1", "x"), typed("A")), api.ErrSchemaName},
		{schemaOf(typed("A", "x", "x", "1")), api.ErrSchemaTwice},
		{schemaOf(typed("A", "x", "Or", "x")), api.ErrSchemaName},
		{schemaOf(typed("A", "x", "y", "z", "x")), api.ErrSchemaTwice},
		{schemaOf(typed("A", "x", "y", "y")), api.ErrSchemaTwice},
		{schemaOf(typed("A"), typed("B"), typed("C"), typed("A")), api.ErrSchemaTwice},
		{schemaOf(typed("")), api.ErrSchemaName},
		{schemaOf(typed("A", "")), api.ErrSchemaName},
		{schemaOf(typed("A", "ts")), api.ErrSchemaName},
		{schemaOf(typed("A", "ts", "ts")), api.ErrSchemaName},
		{schemaOf(typed("A", "Ts", "TS", "tS")), api.OK},
		{schemaOf(typed("ts", "x"), typed("type", "type")), api.OK},
		{schemaOf(typed("a", "x"), typed("A", "y", "x")), api.OK},
		{schemaOf(typed("abcdefghijklmnop", "abcdefghijklmnop")), api.OK},
		{schemaOf(typed("abcdefghijklmnopq")), api.ErrSchemaName},
		{schemaOf(typed("A", "abcdefghijklmnopq")), api.ErrSchemaName},
		{schemaOf(typed("A", "a b")), api.ErrSchemaName},
		{schemaOf(typed("A)")), api.ErrSchemaName},
		{schemaOf(typed("A", "x"), typed("\xff")), api.ErrSchemaName},
	}
	for _, k := range keywords {
		for _, s := range casings(k)[:2] {
			cases = append(cases, struct {
				s    api.Schema
				code api.Errno
			}{schemaOf(typed("A", s)), api.ErrSchemaName})
		}
	}
	return cases
}

func TestCheckSchema(t *testing.T) {
	for _, c := range schemas() {
		if code := event.CheckSchema(c.s); code != c.code {
			t.Errorf("2.3: CheckSchema(%s) = %d, want %d", told(c.s), code, c.code)
		}
	}
}

func TestPrintSchema(t *testing.T) {
	for _, c := range schemas() {
		text, code := event.PrintSchema(c.s)
		if code != c.code || code != api.OK && text != "" {
			t.Errorf("2.4: PrintSchema(%s) = %q, %d, want %d", told(c.s), text, code, c.code)
		}
		if code == api.OK {
			wantParse(t, text, c.s, api.OK, 0)
		}
	}
	for want, s := range map[string]api.Schema{
		"type Buy(sym, price)\ntype Halt()\n": schemaOf(typed("Buy", "sym", "price"), typed("Halt")),
		"type A(x)\n":                         schemaOf(typed("A", "x")),
		"type b()\ntype a(z, y, x)\n":         schemaOf(typed("b"), typed("a", "z", "y", "x")),
	} {
		if text, code := event.PrintSchema(s); text != want || code != api.OK {
			t.Errorf("2.4: PrintSchema(%s) = %q, %d", told(s), text, code)
		}
	}
}

func TestPrintSchemaOfTheGreatest(t *testing.T) {
	long := func(l string) string { return strings.Repeat("x", 15) + l }
	var s api.Schema
	for _, l := range letters(16) {
		d := typed(long(l))
		for _, m := range letters(8) {
			d.Attrs = append(d.Attrs, long(m))
		}
		s.Types = append(s.Types, d)
	}
	text, code := event.PrintSchema(s)
	if len(text) != 2656 || code != api.OK {
		t.Errorf("2.4: %d bytes, %d", len(text), code)
	}
	wantParse(t, text, s, api.OK, 0)
}

func TestTypeOf(t *testing.T) {
	s := schemaOf(typed("Buy", "sym", "price"), typed("Halt"), typed("Buy"), typed(""), typed("a b\xff"))
	for name, want := range map[string]int{"Buy": 0, "Halt": 1, "": 3, "a b\xff": 4, "halt": -1, "Hal": -1, "Halts": -1, "sym": -1, "seq": -1} {
		if got := event.TypeOf(s, name); got != want {
			t.Errorf("2.5: TypeOf(%q) = %d, want %d", name, got, want)
		}
	}
	for i, l := range letters(20) {
		if got := event.TypeOf(api.Schema{Types: types(20)}, l); got != i {
			t.Errorf("2.5: TypeOf(%q) of twenty = %d", l, got)
		}
	}
	for _, name := range []string{"", "Buy"} {
		if got := event.TypeOf(api.Schema{}, name); got != -1 {
			t.Errorf("2.5: TypeOf(%q) of none = %d", name, got)
		}
	}
}

func TestAttrOf(t *testing.T) {
	s := schemaOf(typed("Buy", "sym", "price"), typed("Halt"))
	odd := schemaOf(typed("A", "a", "ts", "a", "", "e", "e", "b c", "h", "i", "a1"), typed("A", letters(9)...))
	for _, c := range []struct {
		s    api.Schema
		typ  int
		name string
		want int
	}{
		{s, 0, "sym", 0}, {s, 0, "price", 1}, {s, 0, "ts", -2}, {s, 1, "sym", -1}, {s, 1, "ts", -2}, {s, 2, "ts", -1}, {s, 2, "sym", -1},
		{s, -1, "ts", -1}, {s, -1, "sym", -1}, {s, 1<<63 - 1, "ts", -1}, {s, -1 << 63, "ts", -1}, {s, 0, "Price", -1}, {s, 0, "TS", -1}, {s, 0, "", -1},
		{odd, 0, "a", 0}, {odd, 0, "ts", -2}, {odd, 0, "", 3}, {odd, 0, "e", 4}, {odd, 0, "b c", 6}, {odd, 0, "h", 7}, {odd, 0, "i", -1}, {odd, 0, "a1", -1},
		{odd, 1, "h", 7}, {odd, 1, "i", -1}, {api.Schema{}, 0, "ts", -1},
	} {
		if got := event.AttrOf(c.s, c.typ, c.name); got != c.want {
			t.Errorf("2.6: AttrOf(%d, %q) = %d, want %d", c.typ, c.name, got, c.want)
		}
	}
	for i, l := range letters(8) {
		if got := event.AttrOf(odd, 1, l); got != i {
			t.Errorf("2.6: AttrOf(1, %q) = %d", l, got)
		}
	}
}

package parse_test

import (
	"fmt"
	"reflect"
	"strings"
	"sync"
	"testing"

	"sluice/api"
)

// anyTexts: sound ones, refused ones, and ones of any bytes.
func anyTexts() []string {
	all, pick := rules(), scatter()
	out := append(samples(), "", "(", strings.Repeat("(", 100000), strings.Repeat("NOT ", 2000), strings.Repeat("-", 400), strings.Repeat("-", 401), strings.Repeat("A a, ", 100), strings.Repeat("\xff", 9000), strings.Repeat("# ", 4096))
	for range 200 {
		for _, rule := range []string{"expr", "query"} {
			list := filled(derive(all, &part{word: rule}, 0, pick), pick)
			out = append(out, laid(list, pick), laid(changed(list, pick), pick))
		}
		b := make([]byte, pick(60))
		for i := range b {
			b[i] = byte(pick(256))
		}
		row := ""
		for range pick(30) {
			row += words()[pick(len(words()))] + " "
		}
		out = append(out, string(b), row)
	}
	return out
}

func TestEveryCallEnds(t *testing.T) {
	for _, text := range anyTexts() {
		e, q := exprOf(text), queryOf(text)
		if e.at < 0 || e.at > len(text) || e.code == api.OK && e.at != 0 || e.code != api.OK && !same(e, tree{code: e.code, at: e.at}) {
			t.Errorf("P1: Expr(%s) = %.200s", short(text), fmt.Sprintf("%+v", e))
		}
		if q.at < 0 || q.at > len(text) || q.code == api.OK && q.at != 0 || q.code != api.OK && !same(q, told{code: q.code, at: q.at}) {
			t.Errorf("P1: Parse(%s) = %.200s", short(text), fmt.Sprintf("%+v", q))
		}
	}
}

// room: the memory that a list takes, its spare room too.
type room struct{ from, to uintptr }

// roomsOf: those of all lists in a value.
func roomsOf(v reflect.Value) []room {
	var out []room
	switch v.Kind() {
	case reflect.Slice:
		if v.Cap() > 0 {
			out = append(out, room{v.Pointer(), v.Pointer() + uintptr(v.Cap())*v.Type().Elem().Size()})
		}
		for i := range v.Len() {
			out = append(out, roomsOf(v.Index(i))...)
		}
	case reflect.Struct:
		for i := range v.NumField() {
			out = append(out, roomsOf(v.Field(i))...)
		}
	}
	return out
}

func TestWhatIsHandedOutIsNew(t *testing.T) {
	for _, text := range anyTexts() {
		answers := []any{exprOf(text), exprOf(text), queryOf(text), queryOf(text)}
		var rooms []room
		for _, a := range answers {
			rooms = append(rooms, roomsOf(reflect.ValueOf(a))...)
		}
		for i, r := range rooms {
			for _, s := range rooms[:i] {
				if r.from < s.to && s.from < r.to {
					t.Errorf("P2: %s: two lists share memory", short(text))
				}
			}
		}
		if !same(answers[0], answers[1]) || !same(answers[2], answers[3]) {
			t.Errorf("P3: %s is answered otherwise the second time", short(text))
		}
	}
}

func TestSameArgumentsSameAnswers(t *testing.T) {
	all := anyTexts()
	tell := func() string {
		var out strings.Builder
		for _, text := range all {
			fmt.Fprintf(&out, "%+v %+v\n", exprOf(text), queryOf(text))
		}
		return out.String()
	}
	want := tell()
	got := make([]string, 8)
	var group sync.WaitGroup
	for i := range got {
		group.Go(func() { got[i] = tell() })
	}
	group.Wait()
	for _, g := range append(got, tell()) {
		if g != want {
			t.Error("P3: the same texts are answered otherwise")
		}
	}
}

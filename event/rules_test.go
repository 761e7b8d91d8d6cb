package event_test

import (
	"fmt"
	"slices"
	"strings"
	"sync"
	"testing"

	"sluice/api"
	"sluice/event"
)

// answers: what every call of the layer says of these, as one text.
func answers(s api.Schema, e api.Event, text string) string {
	out := fmt.Sprint(event.IsName(text), event.CheckSchema(s), event.TypeOf(s, text), event.AttrOf(s, e.Type, text), event.CheckEvent(s, e))
	parsed, code, at := event.ParseSchema(text)
	out += fmt.Sprint(told(parsed), code, at)
	read, code, at := event.ParseEvent(s, text)
	out += fmt.Sprint(read, code, at)
	printed, code := event.PrintSchema(s)
	out += fmt.Sprint(printed, code)
	line, code := event.PrintEvent(s, e)
	return out + fmt.Sprint(line, code, event.Compare(e.Name(), read.Name()))
}

// asked: schemas, events and texts of many kinds, sound or not.
func asked() ([]api.Schema, []api.Event, []string) {
	all := []api.Schema{market(), wide()}
	for _, c := range schemas() {
		all = append(all, c.s)
	}
	events := []api.Event{{}, {Ts: -5, Id: 7, Type: 1}, {Type: -1}, {Type: 1 << 62}, {Ts: least, Attrs: [8]int64{1, 2, 3, 4, 5, 6, 7, 8}}, {Ts: most, Id: 1<<64 - 1, Type: 8}}
	texts := []string{
		"", "\x00", "\xff", "#", "# \xff", "ts", "x", "type", "type A(x)", "type Buy(sym,price)type Halt()", "type A(", "5 7 Halt", "5 7 Buy 1 2", "-", " ", "\t",
		strings.Repeat("(", 4096), strings.Repeat("type ", 900), strings.Repeat("é", 5000), strings.Repeat("0", 100000), strings.Repeat(" ", 100000), manyTypes(16),
	}
	pick := scatter()
	bytes := "type A(x,1)#\n \t-é\x00\xff57Buy"
	for range 300 {
		b := make([]byte, pick(40))
		for i := range b {
			b[i] = bytes[pick(len(bytes))]
		}
		texts = append(texts, string(b))
	}
	return all, events, texts
}

func TestEveryCallEnds(t *testing.T) {
	all, events, texts := asked()
	for _, s := range all {
		for i, text := range texts {
			if answers(s, events[i%len(events)], text) == "" {
				t.Error("P1: no answer")
			}
		}
	}
}

func TestNilListsAreEmptyLists(t *testing.T) {
	some, none := api.Schema{Types: []api.TypeDef{{Name: "A", Attrs: []string{}}}}, api.Schema{Types: []api.TypeDef{{Name: "A"}}}
	for _, text := range []string{"", "A", "5 7 A", "5 7 A 1", "ts"} {
		for _, e := range []api.Event{{}, {Attrs: [8]int64{1}}, {Type: 1}} {
			if answers(some, e, text) != answers(none, e, text) || answers(api.Schema{}, e, text) != answers(api.Schema{Types: []api.TypeDef{}}, e, text) {
				t.Errorf("P1: nil and empty lists are answered otherwise for %q", text)
			}
		}
	}
}

func TestWhatIsHandedInStays(t *testing.T) {
	all, events, texts := asked()
	for _, s := range all {
		was := told(s)
		for i, text := range texts {
			answers(s, events[i%len(events)], text)
		}
		if told(s) != was {
			t.Errorf("P2: %s became %s", was, told(s))
		}
	}
	roomy := make([]string, 1, 8)
	roomy[0] = "x"
	s := schemaOf(typed("A", roomy...), typed("B"))
	answers(s, api.Event{Attrs: [8]int64{1}}, "5 7 A 1")
	for i, rest := range roomy[:8] {
		if i > 0 && rest != "" {
			t.Errorf("P2: the room behind a list has become %q", rest)
		}
	}
}

func TestWhatIsHandedOutIsNew(t *testing.T) {
	text := "type A(a,b,c)type B(d,e,f)type C()type D(g)"
	want, _, _ := event.ParseSchema(text)
	first, _, _ := event.ParseSchema(text)
	second, _, _ := event.ParseSchema(text)
	for i, d := range first.Types {
		whole := d.Attrs[:cap(d.Attrs)]
		for j := range whole {
			whole[j] = "w" + d.Name
		}
		first.Types[i].Attrs = append(d.Attrs, "w"+d.Name)
	}
	for i, d := range first.Types {
		if slices.ContainsFunc(d.Attrs, func(attr string) bool { return attr != "w"+d.Name }) {
			t.Errorf("P2: the list of type %d is written into by another one: %q", i, d.Attrs)
		}
	}
	for i := range first.Types[:cap(first.Types)] {
		first.Types[:cap(first.Types)][i] = typed("W", "w")
	}
	third, _, _ := event.ParseSchema(text)
	if told(second) != told(want) || told(third) != told(want) {
		t.Errorf("P2: writing into one answer changes others: %s, %s", told(second), told(third))
	}
}

func TestSameArgumentsSameAnswers(t *testing.T) {
	all, events, texts := asked()
	tell := func() string {
		out := ""
		for i, text := range texts {
			out += answers(all[i%len(all)], events[i%len(events)], text)
		}
		return out
	}
	want := tell()
	got := make([]string, 8)
	var group sync.WaitGroup
	for i := range got {
		group.Go(func() { got[i] = tell() })
	}
	group.Wait()
	for _, g := range append(got, tell()) {
		if g != want {
			t.Error("P3: the same arguments are answered otherwise")
		}
	}
}

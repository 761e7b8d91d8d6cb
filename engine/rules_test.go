package engine_test

import (
	"fmt"
	"math"
	"reflect"
	"slices"
	"strings"
	"sync"
	"testing"

	"sluice/api"
	"sluice/engine"
)

// every asks and tells all that an engine can be.
func every(g *engine.Engine, l []api.Event, marks []int64) {
	for i, e := range l {
		g.Push(e)
		g.Advance(marks[i%len(marks)])
		g.Sizes()
		g.State()
	}
	g.Flush()
	g.Flush()
	g.State()
}

// wildEvents: of all types and of none, and some that are no events.
func wildEvents() []api.Event {
	var out []api.Event
	for i, ts := range wildTimes {
		for typ := range 4 {
			out = append(out, ev(ts, uint64(typ), typ, int64(i%2), int64(typ)))
		}
		out = append(out, api.Event{Ts: ts, Type: wildNumbers[i%len(wildNumbers)]}, ev(ts, math.MaxUint64, i%4, ts, -ts))
	}
	return out
}

// Promise P1: wild events and marks.
func TestEveryCallEnds(t *testing.T) {
	everyQuery(func(text string) {
		for from := range wildTimes {
			every(opened(t, text, 1+from*50), wildEvents(), wildTimes[from:])
		}
	})
}

// Promises P1 and P9: texts of any bytes.
func TestWildTexts(t *testing.T) {
	pick := scatter(81)
	letters := "PATERNSQ(WIHabk)# ,.|!{}%*/<=>\n\t\x00\xff\xc3\xa9019"
	for range 20000 {
		var text strings.Builder
		for range pick(30) {
			text.WriteByte(letters[pick(len(letters))])
		}
		for _, texts := range [][2]string{{text.String(), "PATTERN SEQ(A a) WITHIN 1"}, {schema, text.String()}, {schema, "PATTERN SEQ(A a) WITHIN 1" + text.String()}} {
			g, f := engine.Open(texts[0], texts[1], 1)
			if f != faultOf(texts[0], texts[1], 1) || (g == nil) != (f != api.Fault{}) {
				t.Fatalf("16.1: Open(%q, %q, 1): %v, %+v", texts[0], texts[1], g != nil, f)
			}
		}
	}
	for _, text := range []string{strings.Repeat("(", 1<<20), strings.Repeat("PATTERN SEQ ", 1<<16), strings.Repeat("\x00", 1<<20), "PATTERN SEQ(A a) WHERE " + strings.Repeat("-", 8000), "type A(" + strings.Repeat("a,", 2000)} {
		for _, texts := range [][2]string{{text, text}, {schema, text}} {
			if g, f := engine.Open(texts[0], texts[1], 1); g != nil || f != faultOf(texts[0], texts[1], 1) {
				t.Errorf("16.1: Open(%.30q, %.30q, 1): %+v", texts[0], texts[1], f)
			}
		}
	}
}

// wildValue fills a value of any kind: lists that are nil, empty and short, numbers and texts that are wild.
func wildValue(pick func(int) int, v reflect.Value) {
	texts := []string{"", "A", "a", "k", "ts", "SEQ", "\xff", "zz", strings.Repeat("x", 40)}
	switch v.Kind() {
	case reflect.Struct:
		for i := range v.NumField() {
			wildValue(pick, v.Field(i))
		}
	case reflect.Array:
		for i := range v.Len() {
			wildValue(pick, v.Index(i))
		}
	case reflect.Slice:
		if pick(4) > 0 {
			v.Set(reflect.MakeSlice(v.Type(), pick(5), 6))
			for i := range v.Len() {
				wildValue(pick, v.Index(i))
			}
		}
	case reflect.String:
		v.SetString(texts[pick(len(texts))])
	case reflect.Bool:
		v.SetBool(pick(2) == 0)
	case reflect.Int:
		v.SetInt(int64(append([]int{0, 1, 2, 3, 9}, wildNumbers...)[pick(5+len(wildNumbers))]))
	case reflect.Int64:
		v.SetInt(wildTimes[pick(len(wildTimes))])
	case reflect.Uint64:
		v.SetUint(uint64(pick(3)) - 1)
	}
}

// Promise P1: states of wild numbers, texts and lists, in one field and in all of them.
func TestWildStates(t *testing.T) {
	pick := scatter(83)
	fields := reflect.TypeFor[api.State]().NumField()
	taken := 0
	everyAfter("SEQ(A a, (A|B)+ b, !C n) WITHIN 3 PARTITION BY k", func(text string) {
		x := open(t, text, 9)
		x.script("push 1/1 A 7, 2/1 A 7, 3/1 A 7, 4/1 C 8 -> 0", "advance 2 ->")
		good := x.g.State()
		for round := range 8000 {
			st := copyOf(good)
			if round%4 == 0 {
				wildValue(pick, reflect.ValueOf(&st).Elem())
			} else {
				wildValue(pick, reflect.ValueOf(&st).Elem().Field(pick(fields)))
			}
			g, code := engine.Resume(st)
			if want := flawOf(st) == 0; (code == api.OK) != want || (g != nil) != want || !want && code != api.ErrState {
				t.Fatalf("16.7: Resume(%s): %v, %d", whole(st), g != nil, int(code))
			}
			if g != nil {
				taken++
				every(g, wildEvents()[pick(40):], wildTimes)
			}
		}
	})
	if taken < 500 {
		t.Errorf("16.7: %d are taken: too few", taken)
	}
}

// Promise P1: a nil list is an empty one, handed in and handed out.
func TestNilLists(t *testing.T) {
	st := open(t, "PATTERN SEQ(A a) WITHIN 4", 9).g.State()
	for _, other := range []api.State{
		changed(st, func(s *api.State) { s.Held, s.Kept, s.Waiting, s.Used = nil, nil, nil, nil }),
		changed(st, func(s *api.State) {
			s.Held, s.Kept, s.Waiting, s.Used = []api.Event{}, []api.Event{}, []api.Match{}, []api.Name{}
		}),
		changed(st, func(s *api.State) { s.Query.Where, s.Query.Ret = nil, nil }),
		changed(st, func(s *api.State) { s.Query.Where, s.Query.Ret = []api.Node{}, [][]api.Node{} }),
		changed(st, func(s *api.State) { s.Schema.Types = append(s.Schema.Types, api.TypeDef{Name: "E"}) }),
		changed(st, func(s *api.State) { s.Schema.Types = append(s.Schema.Types, api.TypeDef{Name: "E", Attrs: []string{}}) }),
	} {
		resumes(t, "nothing", other, 0)
		reopen(t, "nothing", other).script("push 8/1 A -> 0", "advance 12 -> 8 8/1")
	}
	x := script(t, "SEQ(A a, C c, !B n) AFTER NEXT WITHIN 4", 9, "push 1/1 A, 2/1 C -> 0", "advance 2 ->")
	for _, vals := range [][]api.Val{nil, {}} {
		resumes(t, "no results", changed(x.g.State(), func(s *api.State) { s.Waiting[0].Vals = vals }), 0)
	}
}

// Promise P1: long runs, in which each step takes about as long as its own events and matches do; what is held and kept goes on from step to step.
func TestLongRuns(t *testing.T) {
	const many = 30000
	for _, after := range []string{"ALL", "NEXT", "PAST", "ONCE"} {
		g := opened(t, "PATTERN SEQ(A a, B b) USING STRICT AFTER "+after+" WITHIN 100000000", 4096)
		told := 0
		for i := int64(0); i < many; i += 10 {
			for j := range int64(10) {
				if code := g.Push(ev(i+9-j, 0, int((i+9-j)%2), 0, 0)); code != api.OK {
					t.Fatalf("16.2: Push: %d", int(code))
				}
			}
			l, _ := g.Advance(i + 8)
			told += len(l)
		}
		l, _ := g.Advance(many)
		if told += len(l); told != many/2 {
			t.Errorf("16.3: AFTER %s: %d are told", after, told)
		}
		want := map[string]int{"NEXT": many / 2, "PAST": 1, "ONCE": many}[after]
		if st := g.State(); len(st.Kept) != many || len(st.Used) != want {
			t.Errorf("16.6: AFTER %s: %d are kept, %d used names", after, len(st.Kept), len(st.Used))
		} else if h, code := engine.Resume(st); code != api.OK || h.Sizes() != g.Sizes() {
			t.Errorf("16.8: AFTER %s: %d", after, int(code))
		}
	}
}

// Promise P1: as many matches as there may be, of which some are told.
func TestManyMatches(t *testing.T) {
	const many = 60
	everyAfter("SEQ(A a, A b, A c, !B n) WITHIN 200", func(text string) {
		g := opened(t, text, many)
		for i := range int64(many) {
			g.Push(ev(many-i, 0, typeA, 0, 0))
		}
		if l, code := g.Advance(many); len(l) > 0 || code != api.OK {
			t.Fatalf("16.3: %s: %d are told: %d", text, len(l), int(code))
		}
		all := many * (many - 1) * (many - 2) / 6
		if got := g.Sizes(); got != (api.Sizes{Mark: many, Kept: many, Waiting: all, Parts: 1}) {
			t.Errorf("16.5: %s: %+v", text, got)
		}
		h, code := engine.Resume(g.State())
		if code != api.OK {
			t.Fatalf("16.8: %s: not resumed", text)
		}
		want := map[api.After]int{api.AfterAll: all, api.AfterNext: many - 2, api.AfterPast: many / 3, api.AfterOnce: many / 3}[g.State().Query.After]
		told, _ := g.Advance(1000)
		if again, _ := h.Flush(); len(told) != want || !same(told, again) {
			t.Errorf("16.3: %s: %d are told, %d by the resumed one, want %d", text, len(told), len(again), want)
		}
	})
}

// scrawl writes over all lists in a value and their spare room, grows each within that room and beyond it, and writes over that too.
func scrawl(v reflect.Value) {
	switch v.Kind() {
	case reflect.Struct:
		for i := range v.NumField() {
			scrawl(v.Field(i))
		}
	case reflect.Slice:
		all := v.Slice3(0, v.Cap(), v.Cap())
		for i := range all.Len() {
			scrawl(all.Index(i))
			ink(all.Index(i))
		}
		for grown, room := v, v.Cap(); grown.Len() < room+3; {
			grown = reflect.Append(grown, reflect.Zero(v.Type().Elem()))
			ink(grown.Index(grown.Len() - 1))
		}
	}
}

// ink makes a value another one.
func ink(v reflect.Value) {
	switch v.Kind() {
	case reflect.Struct:
		for i := range v.NumField() {
			ink(v.Field(i))
		}
	case reflect.Array:
		for i := range v.Len() {
			ink(v.Index(i))
		}
	case reflect.Slice:
		v.SetZero()
	case reflect.String:
		v.SetString("ink")
	case reflect.Bool:
		v.SetBool(!v.Bool())
	case reflect.Int, reflect.Int64:
		v.SetInt(-99)
	case reflect.Uint64:
		v.SetUint(99)
	}
}

// Promise P2: what is answered is new memory, and what is handed in is not kept: who writes over it and grows it changes nothing that is answered later.
func TestAnswersAreNew(t *testing.T) {
	pick := scatter(91)
	everyQuery(func(text string) {
		x := open(t, text, 20)
		for range 24 {
			if pick(3) > 0 {
				x.push(drawEvent(pick, x.want.mark))
			} else {
				l, _ := x.advance(drawMark(pick, x.want.mark))
				scrawl(reflect.ValueOf(l))
			}
			st := x.g.State()
			scrawl(reflect.ValueOf(&st).Elem())
			x.asked("written over")
			st = x.g.State()
			y := reopen(t, text+", resumed", st)
			scrawl(reflect.ValueOf(&st).Elem())
			y.asked("handed in and written over")
			if pick(3) == 0 {
				x = y
			}
		}
		l, _ := x.flush()
		scrawl(reflect.ValueOf(l))
		x.asked("closed")
	})
}

// room: where a list lies, its spare room too.
type room struct {
	from, to uintptr
	what     string
}

// rooms of all lists in a value.
func rooms(what string, v reflect.Value) []room {
	var out []room
	switch v.Kind() {
	case reflect.Struct:
		for i := range v.NumField() {
			out = append(out, rooms(what+"."+v.Type().Field(i).Name, v.Field(i))...)
		}
	case reflect.Slice:
		if size := uintptr(v.Cap()) * v.Type().Elem().Size(); size > 0 {
			out = append(out, room{v.Pointer(), v.Pointer() + size, what})
		}
		for i := range v.Len() {
			out = append(out, rooms(fmt.Sprint(what, "[", i, "]"), v.Index(i))...)
		}
	}
	return out
}

// Promise P2: no two lists of one answer share memory, nor of two answers, nor with what was handed in.
func TestListsShareNothing(t *testing.T) {
	for _, query := range []string{"SEQ(A+ a, B b) WHERE a.x = 0 AND b.x < 9 WITHIN 9 PARTITION BY k RETURN SUM(a.x), b.x", "SEQ(A+ a, B b, !C n) AFTER NEXT WITHIN 9 RETURN b.x, 1 / b.x"} {
		x := script(t, query, 9, "push 2/1 A 7, 1/1 A 7, 2/2 A 8, 3/2 B 8, 3/1 B 7 -> 0")
		var values []any
		for _, mark := range []int64{2, 3, 9} {
			l, _ := x.g.Advance(mark)
			st := x.g.State()
			g, code := engine.Resume(st)
			if code != api.OK {
				t.Fatalf("16.8: %s: %d", query, int(code))
			}
			values = append(values, l, st, x.g.State(), g.State())
		}
		x.g.Push(ev(11, 1, typeA, 7, 0))
		x.g.Push(ev(12, 1, typeB, 7, 0))
		l, _ := x.g.Flush()
		values = append(values, l, x.g.State())
		var all []room
		for i, v := range values {
			all = append(all, rooms(fmt.Sprint("answer ", i), reflect.ValueOf(v))...)
		}
		slices.SortFunc(all, func(a, b room) int { return int(int64(a.from) - int64(b.from)) })
		for i := 1; i < len(all); i++ {
			if all[i].from < all[i-1].to {
				t.Errorf("P2: %s: %s and %s share memory", query, all[i-1].what, all[i].what)
			}
		}
		if len(all) < 100 {
			t.Errorf("P2: %s: %d lists: too few", query, len(all))
		}
	}
}

// Promise P2: what is handed in is not changed, nor its spare room.
func TestWhatIsHandedInStays(t *testing.T) {
	pick := scatter(93)
	everyQuery(func(text string) {
		x := open(t, text, 20)
		for range 14 {
			x.draw(pick, map[string]int{})
		}
		for range 3 {
			st := spoilt(pick, x.g.State())
			st.Held = append(slices.Grow(st.Held, 2), ev(99, 99, 0, 0, 0))[:len(st.Held)]
			st.Kept = append(slices.Grow(st.Kept, 2), ev(99, 99, 0, 0, 0))[:len(st.Kept)]
			st.Used = append(slices.Grow(st.Used, 2), api.Name{Ts: 99})[:len(st.Used)]
			st.Waiting = append(slices.Grow(st.Waiting, 2), api.Match{Decide: 99})[:len(st.Waiting)]
			all := func() string {
				return whole(st) + fmt.Sprintf("%+v %+v %+v %+v", st.Held[:cap(st.Held)], st.Kept[:cap(st.Kept)], st.Waiting[:cap(st.Waiting)], st.Used[:cap(st.Used)])
			}
			was := all()
			if g, code := engine.Resume(st); code == api.OK {
				every(g, wildEvents()[40:60], []int64{0, 5, 1, 9})
			}
			if all() != was {
				t.Fatalf("P2: %s: what was handed in to Resume is another one", text)
			}
		}
	})
}

// answers: what an engine answers to a scattered script, as a text.
func answers(t *testing.T, text string, seed uint64) string {
	pick := scatter(seed)
	g := opened(t, text, 12)
	var out strings.Builder
	for range 40 {
		mark := g.Sizes().Mark
		if pick(3) > 0 {
			fmt.Fprintln(&out, int(g.Push(drawEvent(pick, mark))))
		} else {
			fmt.Fprintln(&out, told(g.Advance(drawMark(pick, mark))))
		}
		fmt.Fprintln(&out, whole(g.State()), g.Sizes())
	}
	fmt.Fprintln(&out, told(g.Flush()))
	return out.String()
}

// Promise P3: the same steps, the same answers, however often, whatever goes on beside.
func TestSameStepsSameAnswers(t *testing.T) {
	var texts, want []string
	everyQuery(func(text string) {
		texts = append(texts, text)
		want = append(want, answers(t, text, uint64(len(texts))))
	})
	got := make([]string, 4*len(want))
	var group sync.WaitGroup
	for i := range got {
		group.Go(func() { got[i] = answers(t, texts[i%len(want)], uint64(i%len(want)+1)) })
	}
	group.Wait()
	for i, g := range got {
		if g != want[i%len(want)] {
			t.Errorf("P3: the steps %d are answered otherwise", i%len(want))
		}
	}
}

// Promise P3: two engines of one query, and of others, in turns, know nothing of each other, nor does one that was resumed of the one whose state it was.
func TestInTurns(t *testing.T) {
	pick := scatter(95)
	var all []*pair
	everyQuery(func(text string) {
		for range 2 {
			all = append(all, open(t, text, 20))
		}
		for i := range 40 {
			some := all[max(0, len(all)-4):]
			some[pick(len(some))].draw(pick, map[string]int{})
			if i == 20 {
				all = append(all, reopen(t, text+", resumed", some[pick(len(some))].g.State()))
			}
		}
	})
	for _, x := range all {
		x.asked("in turns")
		x.flush()
	}
}

// Promise P4: what is refused changes nothing: of two that are told the same one is told in between what it refuses.
func TestRefusalsChangeNothing(t *testing.T) {
	pick := scatter(97)
	refused := map[string]int{}
	everyQuery(func(text string) {
		plain, asked := opened(t, text, 4), open(t, text, 4)
		for range 24 {
			mark := asked.want.mark
			tries := []api.Event{{Ts: mark + 1, Type: -1}, {Ts: mark + 1, Attrs: [8]int64{7: 1}}, {Ts: math.MaxInt64}, ev(mark, 9, typeA, 0, 0)}
			for _, h := range asked.want.held() {
				tries = append(tries, ev(h.Ts, h.Id, pick(4), 1, 1))
			}
			if len(asked.want.held()) == 4 {
				tries = append(tries, ev(api.MaxTs, 9, typeA, 1, 1))
			}
			for _, e := range tries {
				code := asked.push(e)
				if code == api.OK {
					t.Fatalf("16.2: %s: %+v is accepted", text, e)
				}
				refused[fmt.Sprint("push ", int(code))]++
			}
			for _, m := range []int64{mark - 1, api.MaxTs + 1, math.MinInt64} {
				l, code := asked.advance(m)
				if len(l) > 0 || code == api.OK {
					t.Fatalf("16.3: %s: Advance(%d): %s, %d", text, m, spell(l), int(code))
				}
				refused[fmt.Sprint("advance ", int(code))]++
			}
			if e := drawEvent(pick, mark); pick(3) > 0 {
				if got, want := asked.push(e), plain.Push(e); got != want {
					t.Fatalf("P4: %s: Push(%+v): %d, want %d", text, e, int(got), int(want))
				}
			} else if m := drawMark(pick, mark); told(asked.advance(m)) != told(plain.Advance(m)) {
				t.Fatalf("P4: %s: Advance(%d)", text, m)
			}
		}
		if got, want := told(asked.flush()), told(plain.Flush()); got != want {
			t.Fatalf("P4: %s: Flush: %s, want %s", text, got, want)
		}
		for range 3 {
			asked.push(ev(api.MaxTs, 1, typeA, 0, 0))
			asked.advance(api.MaxTs)
			asked.flush()
		}
	})
	if err := enough(refused, 1000, "push 27", "push 28", "push 29", "push 102", "push 103", "push 104", "advance 105", "advance 106"); err != nil {
		t.Error(err, refused)
	}
}

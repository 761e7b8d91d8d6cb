package engine_test

import (
	"fmt"
	"slices"
	"testing"

	"sluice/api"
	"sluice/check"
	"sluice/engine"
	"sluice/event"
	"sluice/meaning"
	"sluice/parse"
	"sluice/show"
)

// second: all that was accepted, of which everything is told anew each time, by what the query means.
type second struct {
	schema   api.Schema
	query    api.Query
	m        *meaning.Meaning
	capacity int
	accepted []api.Event // as they came; of a resumed one those of kept and held first
	mark     int64
	closed   bool
	resumed  api.State // the state that it was resumed from, else one at NoMark

	ofAll, ofReached []api.Match // M(Q, A), and M of those at or below the mark
}

func secondOf(s api.Schema, q api.Query, capacity int) *second {
	return &second{schema: s, query: q, m: meaning.Of(s, q), capacity: capacity, mark: api.NoMark, resumed: api.State{Mark: api.NoMark}}
}

// resumedFrom a state that can be.
func resumedFrom(st api.State) *second {
	st = copyOf(st)
	s := secondOf(st.Schema, st.Query, st.Cap)
	s.mark, s.closed, s.resumed = st.Mark, st.Closed, st
	s.accepted = slices.Concat(st.Kept, st.Held)
	s.look()
	return s
}

// look: the matches are searched for anew.
func (s *second) look() {
	s.ofAll, s.ofReached = s.left(s.accepted), s.left(s.reached())
}

// left: of the matches of these events those that may be told at all: of those that ended at or below the mark of a state that was resumed just what waited there.
func (s *second) left(l []api.Event) []api.Match {
	return slices.DeleteFunc(s.m.Matches(l), func(m api.Match) bool {
		isOld := m.Names[len(m.Names)-1].Ts <= s.resumed.Mark
		return isOld && !slices.ContainsFunc(s.resumed.Waiting, func(w api.Match) bool { return sameMatch(w, m) })
	})
}

func (s *second) reached() []api.Event {
	return slices.DeleteFunc(slices.Clone(s.accepted), func(e api.Event) bool { return e.Ts > s.mark })
}

func (s *second) held() []api.Event {
	return inOrder(slices.DeleteFunc(slices.Clone(s.accepted), func(e api.Event) bool { return e.Ts <= s.mark }))
}

func (s *second) kept() []api.Event {
	if s.closed {
		return nil
	}
	return inOrder(slices.DeleteFunc(s.reached(), func(e api.Event) bool { return e.Ts <= s.mark-s.query.Within || !s.m.InStream(e) }))
}

func (s *second) waiting() []api.Match {
	if s.closed {
		return nil
	}
	return slices.DeleteFunc(slices.Clone(s.ofReached), func(m api.Match) bool { return m.Decide <= s.mark })
}

func (s *second) used() []api.Name {
	if s.closed {
		return nil
	}
	return s.m.Used(s.accepted, s.told(api.NoMark, s.mark), s.resumed.Used, s.mark)
}

// told: what is told in all, T(Q, A), from behind one mark up to another one.
func (s *second) told(from, upTo int64) []api.Match {
	return slices.DeleteFunc(s.m.Told(s.accepted, s.ofAll, s.resumed.Used), func(m api.Match) bool { return m.Decide <= from || m.Decide > upTo })
}

// end: a time behind the decision of each match.
const end = api.MaxTs + api.MaxWindow

func (s *second) push(e api.Event) api.Errno {
	if s.closed {
		return api.ErrClosed
	}
	if code := event.CheckEvent(s.schema, e); code != api.OK {
		return code
	}
	switch held := s.held(); {
	case e.Ts <= s.mark:
		return api.ErrLate
	case slices.ContainsFunc(held, func(h api.Event) bool { return h.Name() == e.Name() }):
		return api.ErrTwice
	case len(held) >= s.capacity:
		return api.ErrFull
	}
	s.accepted = append(s.accepted, e)
	s.look()
	return api.OK
}

func (s *second) advance(mark int64) ([]api.Match, api.Errno) {
	switch {
	case s.closed:
		return nil, api.ErrClosed
	case mark < api.MinTs || mark > api.MaxTs:
		return nil, api.ErrMark
	case mark < s.mark:
		return nil, api.ErrBack
	}
	from := s.mark
	s.mark = mark
	s.look()
	return s.told(from, mark), api.OK
}

func (s *second) flush() ([]api.Match, api.Errno) {
	if s.closed {
		return nil, api.ErrClosed
	}
	told := s.told(s.mark, end)
	s.closed, s.mark = true, api.MaxTs
	return told, api.OK
}

func (s *second) sizes() api.Sizes {
	keys := map[int64]int{}
	for _, e := range s.kept() {
		keys[s.m.Key(e)]++
	}
	return api.Sizes{Mark: s.mark, Closed: s.closed, Held: len(s.held()), Kept: len(s.kept()), Waiting: len(s.waiting()), Parts: len(keys)}
}

func (s *second) state() api.State {
	return api.State{Schema: s.schema, Query: s.query, Cap: s.capacity, Mark: s.mark, Closed: s.closed, Held: s.held(), Kept: s.kept(), Waiting: s.waiting(), Used: s.used()}
}

// faultOf: what 16.1 says of the texts and the capacity.
func faultOf(schema, query string, capacity int) api.Fault {
	s, code, at := event.ParseSchema(schema)
	if code != api.OK {
		return api.Fault{Where: 1, Code: code, At: at}
	}
	q, spots, code, at := parse.Parse(query)
	if code != api.OK {
		return api.Fault{Where: 2, Code: code, At: at}
	}
	if flaw := check.Check(s, q); flaw != (api.Flaw{}) {
		return api.Fault{Where: 2, Code: flaw.Code, At: check.Place(spots, flaw)}
	}
	if capacity < 1 || capacity > 4096 {
		return api.Fault{Where: 3, Code: api.ErrCap}
	}
	return api.Fault{}
}

// flawOf: the first of the seven points of 16.7 that is not so; 0: it can be resumed.
func flawOf(st api.State) int {
	_, code := show.Print(st.Query)
	isOpen := st.Mark == api.NoMark || api.MinTs <= st.Mark && st.Mark <= api.MaxTs
	switch {
	case event.CheckSchema(st.Schema) != api.OK, check.Check(st.Schema, st.Query) != api.Flaw{}, code != api.OK:
		return 1
	case st.Cap < 1, st.Cap > 4096:
		return 2
	case !isOpen:
		return 3
	case st.Closed && (st.Mark != api.MaxTs || len(st.Held)+len(st.Kept)+len(st.Waiting)+len(st.Used) > 0):
		return 4
	}
	m := meaning.Of(st.Schema, st.Query)
	for i, e := range st.Held {
		if len(st.Held) > st.Cap || event.CheckEvent(st.Schema, e) != api.OK || e.Ts <= st.Mark || i > 0 && !st.Held[i-1].Before(e) {
			return 5
		}
	}
	for i, e := range st.Kept {
		if event.CheckEvent(st.Schema, e) != api.OK || !m.InStream(e) || e.Ts <= st.Mark-st.Query.Within || e.Ts > st.Mark || i > 0 && !st.Kept[i-1].Before(e) {
			return 6
		}
	}
	if !canBeUsed(m, st) || !canWait(m, st) {
		return 7
	}
	return 0
}

// canBeUsed: point 3 of 15.8.
func canBeUsed(m *meaning.Meaning, st api.State) bool {
	seen := map[int64]int{}
	for i, n := range st.Used {
		at := slices.IndexFunc(st.Kept, func(e api.Event) bool { return e.Name() == n })
		if at < 0 || n.Ts > st.Mark || i > 0 && !st.Used[i-1].Before(n) || st.Query.After == api.AfterAll {
			return false
		}
		key := m.Key(st.Kept[at])
		seen[key]++
		if st.Query.After == api.AfterPast && seen[key] > 1 {
			return false
		}
	}
	return true
}

// canWait: points 4 and 5 of 15.8.
func canWait(m *meaning.Meaning, st api.State) bool {
	left := slices.DeleteFunc(m.Matches(st.Kept), func(m api.Match) bool { return m.Decide <= st.Mark })
	for i, w := range st.Waiting {
		if i > 0 && !st.Waiting[i-1].Before(w) || !slices.ContainsFunc(left, func(m api.Match) bool { return sameMatch(m, w) }) {
			return false
		}
	}
	for _, m := range left {
		isThere := slices.ContainsFunc(st.Waiting, func(w api.Match) bool { return sameMatch(m, w) })
		if !isThere && !(st.Query.Items[0].Neg && m.Names[len(m.Names)-1].Ts <= st.Mark) {
			return false
		}
	}
	return true
}

// pair: an engine beside the second one. Each step is told to both, and behind it both are asked all that changes nothing.
type pair struct {
	t     *testing.T
	where string
	g     *engine.Engine
	want  *second
}

// opened: an engine for the tests' schema and a query that can be.
func opened(t *testing.T, query string, capacity int) *engine.Engine {
	t.Helper()
	g, f := engine.Open(schema, query, capacity)
	if g == nil || f != (api.Fault{}) {
		t.Fatalf("16.1: %s: Open: %+v", query, f)
	}
	return g
}

// open: a new engine beside a new second one.
func open(t *testing.T, query string, capacity int) *pair {
	t.Helper()
	q, _, _, _ := parse.Parse(query)
	x := &pair{t, query, opened(t, query, capacity), secondOf(schemaOf(), q, capacity)}
	x.asked("Open")
	return x
}

// reopen: an engine that is resumed from a state that can be, beside the second one.
func reopen(t *testing.T, where string, st api.State) *pair {
	t.Helper()
	g, code := engine.Resume(st)
	if code != api.OK || g == nil {
		t.Fatalf("16.7: %s: Resume: %s: %d", where, whole(st), int(code))
	}
	x := &pair{t, where, g, resumedFrom(st)}
	x.asked("Resume")
	return x
}

// asked: all questions, twice in a row.
func (x *pair) asked(call string) {
	x.t.Helper()
	for range 2 {
		if got, want := x.g.Sizes(), x.want.sizes(); got != want {
			x.t.Fatalf("16.5: %s: %s: Sizes: %+v, want %+v", x.where, call, got, want)
		}
		if got, want := whole(x.g.State()), whole(x.want.state()); got != want {
			x.t.Fatalf("16.6: %s: %s: State:\n%s, want\n%s", x.where, call, got, want)
		}
	}
}

func (x *pair) push(e api.Event) api.Errno {
	x.t.Helper()
	mark := x.want.mark
	got, want := x.g.Push(e), x.want.push(e)
	if got != want {
		x.t.Fatalf("16.2: %s: Push(%+v) at %d: %d, want %d", x.where, e, mark, int(got), int(want))
	}
	x.asked("Push")
	return got
}

func (x *pair) advance(mark int64) ([]api.Match, api.Errno) {
	x.t.Helper()
	got, code := x.g.Advance(mark)
	want, as := x.want.advance(mark)
	if !same(got, want) || code != as {
		x.t.Fatalf("16.3: %s: Advance(%d): %s, %d, want %s, %d", x.where, mark, spell(got), int(code), spell(want), int(as))
	}
	x.asked(fmt.Sprintf("Advance(%d)", mark))
	return got, code
}

func (x *pair) flush() ([]api.Match, api.Errno) {
	x.t.Helper()
	got, code := x.g.Flush()
	want, as := x.want.flush()
	if !same(got, want) || code != as {
		x.t.Fatalf("16.4: %s: Flush: %s, %d, want %s, %d", x.where, spell(got), int(code), spell(want), int(as))
	}
	x.asked("Flush")
	return got, code
}

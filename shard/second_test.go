package shard_test

import (
	"slices"
	"testing"

	"sluice/api"
	"sluice/event"
	"sluice/meaning"
	"sluice/shard"
)

// second: all that was taken, of which everything is told anew each time, by what the query means.
type second struct {
	schema api.Schema
	query  api.Query
	m      *meaning.Meaning
	taken  []api.Event
	all    []api.Match // M(Q, E), E being what was taken
	mark   int64
	closed bool
	state  state // from which it was restored
}

// state: what Restore is given, beside the plan and the mark.
type state struct {
	kept    []api.Event
	waiting []api.Match
	used    []api.Name
}

func secondOf(p api.Plan) *second {
	return &second{schema: p.Schema, query: p.Query, m: meaning.Of(p.Schema, p.Query), mark: api.NoMark}
}

// accepts: is it an event of the schema and of the stream?
func (s *second) accepts(e api.Event) bool {
	return event.CheckEvent(s.schema, e) == api.OK && s.m.InStream(e)
}

func (s *second) step(e api.Event) bool {
	if s.closed || !s.accepts(e) || e.Ts <= s.mark || slices.ContainsFunc(s.taken, func(f api.Event) bool { return !f.Before(e) }) {
		return false
	}
	s.taken = append(s.taken, e)
	s.all = s.m.Matches(s.taken)
	return true
}

// telling: those of M(Q, E) that may be told at all: of a state that was restored what waited there, and what was completed later.
func (s *second) telling() []api.Match {
	return slices.DeleteFunc(slices.Clone(s.all), func(m api.Match) bool {
		last := m.Names[len(m.Names)-1]
		isOld := slices.ContainsFunc(s.state.kept, func(e api.Event) bool { return e.Name() == last })
		return isOld && !slices.ContainsFunc(s.state.waiting, func(w api.Match) bool { return sameMatch(w, m) })
	})
}

// told: what is told of it in all, from behind one mark up to another one.
func (s *second) told(from, upTo int64) []api.Match {
	return slices.DeleteFunc(s.m.Told(s.taken, s.telling(), s.state.used), func(m api.Match) bool { return m.Decide <= from || m.Decide > upTo })
}

func (s *second) tick(mark int64) []api.Match {
	if s.closed || mark < s.mark {
		return nil
	}
	from := s.mark
	s.mark = mark
	return s.told(from, mark)
}

// end: a time behind the decision of each match.
const end = api.MaxTs + api.MaxWindow

func (s *second) close() []api.Match {
	if s.closed {
		return nil
	}
	s.closed = true
	return s.told(s.mark, end)
}

func (s *second) kept() []api.Event {
	if s.closed {
		return nil
	}
	return slices.DeleteFunc(slices.Clone(s.taken), func(e api.Event) bool { return e.Ts <= s.mark-s.query.Within })
}

func (s *second) keys() []int64 {
	var out []int64
	for _, e := range s.kept() {
		out = append(out, s.m.Key(e))
	}
	slices.Sort(out)
	return slices.Compact(out)
}

func (s *second) waiting() []api.Match {
	if s.closed {
		return nil
	}
	return slices.DeleteFunc(s.telling(), func(m api.Match) bool { return m.Decide <= s.mark })
}

func (s *second) used() []api.Name {
	if s.closed {
		return nil
	}
	return s.m.Used(s.taken, s.told(api.NoMark, s.mark), s.state.used, s.mark)
}

// flawOf: the first of the five conditions of 15.8 that is not so; 0: it can be restored.
func flawOf(p api.Plan, mark int64, st state) int {
	s := secondOf(p)
	named := func(n api.Name) int {
		return slices.IndexFunc(st.kept, func(e api.Event) bool { return e.Name() == n })
	}
	if mark < api.NoMark {
		return 1
	}
	for i, e := range st.kept {
		if !s.accepts(e) || e.Ts <= mark-p.Query.Within || i > 0 && !st.kept[i-1].Before(e) {
			return 2
		}
	}
	seen := map[int64]int{}
	for i, n := range st.used {
		at := named(n)
		if at < 0 || n.Ts > mark || i > 0 && !st.used[i-1].Before(n) || p.Query.After == api.AfterAll {
			return 3
		}
		key := s.m.Key(st.kept[at])
		seen[key]++
		if p.Query.After == api.AfterPast && seen[key] > 1 {
			return 3
		}
	}
	left := slices.DeleteFunc(s.m.Matches(st.kept), func(m api.Match) bool { return m.Decide <= mark })
	for i, w := range st.waiting {
		if i > 0 && !st.waiting[i-1].Before(w) || !slices.ContainsFunc(left, func(m api.Match) bool { return sameMatch(m, w) }) {
			return 4
		}
	}
	leads := p.Query.Items[0].Neg
	for _, m := range left {
		last := m.Names[len(m.Names)-1]
		isThere := slices.ContainsFunc(st.waiting, func(w api.Match) bool { return sameMatch(m, w) })
		if !isThere && !(leads && last.Ts <= mark) {
			return 5
		}
	}
	return 0
}

// restored: one from a state that can be.
func restored(p api.Plan, mark int64, st state) *second {
	s := secondOf(p)
	s.taken, s.mark, s.state = slices.Clone(st.kept), mark, state{slices.Clone(st.kept), cloned(st.waiting), slices.Clone(st.used)}
	s.all = s.m.Matches(s.taken)
	return s
}

// pair: shards beside the second ones. Each step is told to both, and behind it both are asked all that changes nothing.
type pair struct {
	t     *testing.T
	where string
	plan  api.Plan
	s     *shard.Shards
	want  *second
}

// open: new shards beside new second ones.
func open(t *testing.T, where string, p api.Plan) *pair {
	t.Helper()
	s := shard.New(p)
	if s == nil {
		t.Fatalf("15.1: %s: New has answered nothing", where)
	}
	x := &pair{t, where, p, s, secondOf(p)}
	x.asked("New")
	return x
}

// reopen: shards restored from a state that can be, beside the second ones.
func reopen(t *testing.T, where string, p api.Plan, mark int64, st state) *pair {
	t.Helper()
	s, ok := shard.Restore(p, mark, st.kept, st.waiting, st.used)
	if !ok || s == nil {
		t.Fatalf("15.8: %s: Restore at %d: kept %s; waiting %s; used %s: %v", where, mark, spellEvents(st.kept), spell(st.waiting), spellNames(st.used), ok)
	}
	x := &pair{t, where, p, s, restored(p, mark, st)}
	x.asked("Restore")
	return x
}

// asked: all questions, twice in a row.
func (x *pair) asked(call string) {
	x.t.Helper()
	for range 2 {
		if got, want := x.s.Kept(), x.want.kept(); !slices.Equal(got, want) {
			x.t.Fatalf("15.5: %s: %s: Kept: %s, want %s", x.where, call, spellEvents(got), spellEvents(want))
		}
		if got, want := x.s.Keys(), x.want.keys(); !slices.Equal(got, want) {
			x.t.Fatalf("15.5: %s: %s: Keys: %v, want %v", x.where, call, got, want)
		}
		if got, want := x.s.Waiting(), x.want.waiting(); !same(got, want) {
			x.t.Fatalf("15.5: %s: %s: Waiting: %s, want %s", x.where, call, spell(got), spell(want))
		}
		if got, want := x.s.Used(), x.want.used(); !slices.Equal(got, want) {
			x.t.Fatalf("15.5: %s: %s: Used: %s, want %s", x.where, call, spellNames(got), spellNames(want))
		}
	}
}

func (x *pair) step(e api.Event) bool {
	x.t.Helper()
	got, want := x.s.Step(e), x.want.step(e)
	if got != want {
		x.t.Fatalf("15.2: %s: Step(%+v) at %d: %v", x.where, e, x.want.mark, got)
	}
	x.asked("Step")
	return got
}

func (x *pair) tick(mark int64) []api.Match {
	x.t.Helper()
	got, want := x.s.Tick(mark), x.want.tick(mark)
	if !same(got, want) {
		x.t.Fatalf("15.3: %s: Tick(%d): %s, want %s", x.where, mark, spell(got), spell(want))
	}
	x.asked("Tick")
	return got
}

func (x *pair) close() []api.Match {
	x.t.Helper()
	got, want := x.s.Close(), x.want.close()
	if !same(got, want) {
		x.t.Fatalf("15.4: %s: Close: %s, want %s", x.where, spell(got), spell(want))
	}
	x.asked("Close")
	return got
}

// state of the shards, as they tell it.
func (x *pair) state() state { return state{x.s.Kept(), x.s.Waiting(), x.s.Used()} }

// last: the name of the event that was taken last.
func (x *pair) last() api.Name {
	if len(x.want.taken) == 0 {
		return api.Name{}
	}
	return x.want.taken[len(x.want.taken)-1].Name()
}

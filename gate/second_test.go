package gate_test

import (
	"cmp"
	"slices"
	"testing"

	"sluice/api"
	"sluice/gate"
)

// plain: a second gate: the list of all events that were ever accepted. What is held and what is let through is looked up in it by the timestamps.
type plain struct {
	capacity int
	mark     int64
	closed   bool
	accepted []api.Event
}

func newPlain(capacity int) *plain { return &plain{capacity: capacity, mark: api.NoMark} }

// sorted: the events with timestamps above one mark and up to another one, by the timestamp, then by the id.
func (p *plain) sorted(above, upTo int64) []api.Event {
	var out []api.Event
	for _, e := range p.accepted {
		if e.Ts > above && e.Ts <= upTo {
			out = append(out, e)
		}
	}
	return inOrder(out)
}

// inOrder: a plain sort by the names.
func inOrder(l []api.Event) []api.Event {
	l = slices.Clone(l)
	slices.SortStableFunc(l, func(e, f api.Event) int {
		return cmp.Or(cmp.Compare(e.Ts, f.Ts), cmp.Compare(e.Id, f.Id))
	})
	return l
}

func (p *plain) held() []api.Event { return p.sorted(p.mark, api.MaxTs) }

// reason: a code, and whether it applies.
type reason struct {
	code    api.Errno
	applies bool
}

// first: the first reason that applies.
func first(reasons ...reason) api.Errno {
	for _, r := range reasons {
		if r.applies {
			return r.code
		}
	}
	return api.OK
}

func outside(ts int64) bool { return ts < -1152921504606846976 || ts > 1152921504606846976 }

func (p *plain) push(e api.Event) api.Errno {
	held := p.held()
	twice := slices.ContainsFunc(held, func(f api.Event) bool { return e.Ts == f.Ts && e.Id == f.Id })
	code := first(reason{api.ErrClosed, p.closed}, reason{api.ErrRange, outside(e.Ts)}, reason{api.ErrLate, e.Ts <= p.mark}, reason{api.ErrTwice, twice}, reason{api.ErrFull, len(held) == p.capacity})
	if code == api.OK {
		p.accepted = append(p.accepted, e)
	}
	return code
}

func (p *plain) advance(mark int64) ([]api.Event, api.Errno) {
	code := first(reason{api.ErrClosed, p.closed}, reason{api.ErrMark, outside(mark)}, reason{api.ErrBack, mark < p.mark})
	if code != api.OK {
		return nil, code
	}
	out := p.sorted(p.mark, mark)
	p.mark = mark
	return out, api.OK
}

func (p *plain) flush() ([]api.Event, api.Errno) {
	if p.closed {
		return nil, api.ErrClosed
	}
	out := p.held()
	p.mark, p.closed = 1152921504606846976, true
	return out, api.OK
}

// pair: a gate beside the second one. Each step is told to both, and behind it both are asked all that changes nothing.
type pair struct {
	t     *testing.T
	where string
	gate  *gate.Gate
	want  *plain
}

// open: a new gate beside a new second one.
func open(t *testing.T, where string, capacity int) *pair {
	t.Helper()
	g, code := gate.New(capacity)
	if g == nil || code != api.OK {
		t.Fatalf("10.1: %s: New(%d): %v, %d", where, capacity, g, code)
	}
	p := &pair{t, where, g, newPlain(capacity)}
	p.asked("New")
	return p
}

// asked: Mark, Closed, Len and Held, twice in a row.
func (p *pair) asked(call string) {
	p.t.Helper()
	held := p.want.held()
	for range 2 {
		if got := p.gate.Mark(); got != p.want.mark {
			p.t.Fatalf("10.5: %s: %s: Mark: %d, want %d", p.where, call, got, p.want.mark)
		}
		if got := p.gate.Closed(); got != p.want.closed {
			p.t.Fatalf("10.5: %s: %s: Closed: %v, want %v", p.where, call, got, p.want.closed)
		}
		if got := p.gate.Len(); got != len(held) {
			p.t.Fatalf("10.5: %s: %s: Len: %d, want %d", p.where, call, got, len(held))
		}
		if got := p.gate.Held(); !slices.Equal(got, held) {
			p.t.Fatalf("10.5: %s: %s: Held: %s, want %s", p.where, call, shown(got), shown(held))
		}
	}
}

func (p *pair) push(e api.Event) api.Errno {
	p.t.Helper()
	got, want := p.gate.Push(e), p.want.push(e)
	if got != want {
		p.t.Fatalf("10.2: %s: Push(%d/%d): %d, want %d", p.where, e.Ts, e.Id, got, want)
	}
	p.asked("Push")
	return got
}

func (p *pair) advance(mark int64) []api.Event {
	p.t.Helper()
	got, code := p.gate.Advance(mark)
	want, wanted := p.want.advance(mark)
	if code != wanted || !slices.Equal(got, want) {
		p.t.Fatalf("10.3: %s: Advance(%d): %s, %d, want %s, %d", p.where, mark, shown(got), code, shown(want), wanted)
	}
	p.asked("Advance")
	return got
}

func (p *pair) flush() []api.Event {
	p.t.Helper()
	got, code := p.gate.Flush()
	want, wanted := p.want.flush()
	if code != wanted || !slices.Equal(got, want) {
		p.t.Fatalf("10.4: %s: Flush: %s, %d, want %s, %d", p.where, shown(got), code, shown(want), wanted)
	}
	p.asked("Flush")
	return got
}

// draw: a scattered step. Most of them are pushes; a Flush is seldom.
func (p *pair) draw(pick func(int) int, sign int) {
	p.t.Helper()
	switch pick(60) {
	case 0:
		p.flush()
	case 1:
		p.advance(wildTimes[pick(len(wildTimes))])
	case 2, 3, 4, 5, 6, 7, 8:
		p.advance(max(p.want.mark, -4) + int64(pick(5)-1))
	default:
		p.push(drawEvent(pick, p.want.mark, sign))
	}
}

// again: a gate that is restored from what this one tells, beside a second one of its own.
func (p *pair) again() *pair {
	p.t.Helper()
	g, code := gate.Restore(p.want.capacity, p.gate.Mark(), p.gate.Closed(), p.gate.Held())
	if g == nil || code != api.OK {
		p.t.Fatalf("10.8: %s: what the gate tells is refused: %d", p.where, code)
	}
	same := *p.want
	same.accepted = slices.Clone(p.want.accepted)
	out := &pair{p.t, p.where + ", restored", g, &same}
	out.asked("Restore")
	return out
}

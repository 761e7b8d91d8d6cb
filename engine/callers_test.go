package engine_test

import (
	"fmt"
	"slices"
	"sync"
	"testing"

	"sluice/api"
	"sluice/engine"
)

// told at a mark, or at the end.
type telling struct {
	mark int64
	l    []api.Match
}

// Promises 16.10 and P13: several callers push, others give marks, others ask: what all of them are answered is what one caller would be that makes the calls in some order. So an event is accepted or late, each mark is reached or falls back, and what is told, by the marks, is T(Q, A).
func TestCallers(t *testing.T) {
	pick := scatter(101)
	counts := map[string]int{}
	everyQuery(func(text string) {
		m := meant(text)
		g := opened(t, text, 4096)
		var mutex sync.Mutex
		var accepted []api.Event
		var tellings []telling
		note := func(kind string, do func()) {
			mutex.Lock()
			defer mutex.Unlock()
			counts[kind]++
			do()
		}
		var group sync.WaitGroup
		log := drawLog(pick, 24)
		for i := range 4 {
			group.Go(func() {
				for j := i; j < len(log); j += 4 {
					code := g.Push(log[j])
					note(fmt.Sprint("push ", int(code)), func() {
						if code == api.OK {
							accepted = append(accepted, log[j])
						}
					})
				}
			})
			group.Go(func() {
				for mark := int64(i); mark < 12; mark += 3 {
					l, code := g.Advance(mark)
					note(fmt.Sprint("advance ", int(code)), func() {
						if code == api.OK {
							tellings = append(tellings, telling{mark, l})
						} else if len(l) > 0 {
							t.Errorf("16.3: %s: a refused Advance tells %s", text, spell(l))
						}
					})
				}
			})
		}
		group.Go(func() {
			for range 12 {
				st := g.State()
				if flawOf(st) != 0 {
					t.Errorf("16.10: %s: a state that cannot be: %s", text, whole(st))
				}
				if h, code := engine.Resume(st); code != api.OK || whole(h.State()) != whole(st) {
					t.Errorf("16.8: %s: %s: %d", text, whole(st), int(code))
				}
				if n := g.Sizes(); n.Closed || n.Mark < st.Mark || n.Kept < n.Parts {
					t.Errorf("16.5: %s: %+v", text, n)
				}
			}
		})
		group.Wait()
		for range 2 {
			group.Go(func() {
				l, code := g.Flush()
				note(fmt.Sprint("flush ", int(code)), func() {
					if code == api.OK {
						tellings = append(tellings, telling{end, l})
					}
				})
			})
		}
		group.Wait()
		slices.SortStableFunc(tellings, func(a, b telling) int { return int(a.mark - b.mark) })
		var all []api.Match
		for i, x := range tellings {
			for _, m := range x.l {
				if m.Decide > x.mark || i > 0 && tellings[i-1].mark < x.mark && m.Decide <= tellings[i-1].mark {
					t.Errorf("16.10: %s: decided at %d, told at %d", text, m.Decide, x.mark)
				}
			}
			all = append(all, x.l...)
		}
		if want := m.Told(accepted, m.Matches(accepted), nil); !same(all, want) {
			t.Errorf("16.10: %s: %s: %s, want %s", text, spellEvents(inOrder(accepted)), spell(all), spell(want))
		}
		counts["told"] += len(all)
	})
	if err := enough(counts, 100, "push 0", "advance 0", "flush 0", "flush 101", "told"); err != nil {
		t.Error(err, counts)
	}
}

// Promise 16.10: with room for all and no mark, each event of each caller is accepted once, those of one name by one of them.
func TestCallersOfOneName(t *testing.T) {
	g := opened(t, "PATTERN SEQ(A a) WITHIN 1", 100)
	var mutex sync.Mutex
	counts := map[api.Errno]int{}
	var group sync.WaitGroup
	for range 8 {
		group.Go(func() {
			for i := range 120 {
				code := g.Push(ev(int64(i), 0, typeA, 0, 0))
				mutex.Lock()
				counts[code]++
				mutex.Unlock()
			}
		})
	}
	group.Wait()
	if got := g.Sizes().Held; got != 100 || counts[api.OK] != 100 || counts[api.OK]+counts[api.ErrTwice]+counts[api.ErrFull] != 960 || counts[api.ErrFull] != 8*20 {
		t.Errorf("16.10: %d are held: %v", got, counts)
	}
	if l, _ := g.Flush(); len(l) != 100 {
		t.Errorf("16.10: %d are told", len(l))
	}
}

// Promise 16.10: whoever asks while others push, give marks and flush sees each of these calls whole, or not at all: of events that stand at each time from 1 on, each of a key of its own, those up to the mark are kept, and all others are held.
func TestCallersSeeWholeCalls(t *testing.T) {
	const many = 3000
	g := opened(t, "PATTERN SEQ(A a) WITHIN 1000000 PARTITION BY k", 4096)
	for i := range int64(many) {
		g.Push(ev(many-i, 0, typeA, i, 0))
	}
	want := func(mark int64, isClosed bool) api.Sizes {
		if isClosed {
			return api.Sizes{Mark: api.MaxTs, Closed: true}
		}
		reached := int(max(0, mark))
		return api.Sizes{Mark: mark, Held: many - reached, Kept: reached, Parts: reached}
	}
	var group sync.WaitGroup
	for range 2 {
		group.Go(func() {
			for isClosed := false; !isClosed && !t.Failed(); {
				n := g.Sizes()
				if n != want(n.Mark, n.Closed) {
					t.Errorf("16.10: Sizes: %+v", n)
				}
				isClosed = n.Closed
			}
		})
		group.Go(func() {
			for isClosed := false; !isClosed && !t.Failed(); {
				st := g.State()
				if n := want(st.Mark, st.Closed); len(st.Held) != n.Held || len(st.Kept) != n.Kept || st.Closed != n.Closed || st.Mark != n.Mark {
					t.Errorf("16.10: State: at %d, closed %v: %d are held, %d kept", st.Mark, st.Closed, len(st.Held), len(st.Kept))
				}
				isClosed = st.Closed
			}
		})
	}
	group.Go(func() {
		told := 0
		for mark := int64(0); mark < many/2; mark += 10 {
			l, _ := g.Advance(mark)
			told += len(l)
		}
		l, _ := g.Flush()
		if told += len(l); told != many {
			t.Errorf("16.10: %d are told", told)
		}
	})
	group.Wait()
}

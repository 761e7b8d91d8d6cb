package due_test

import (
	"fmt"
	"slices"
	"strings"
	"sync"
	"testing"

	"sluice/api"
	"sluice/due"
)

// Promise P1: wild numbers and lists of all lengths.
func TestEveryCallEnds(t *testing.T) {
	pick := scatter(101)
	d := due.New()
	var lists [][]api.Match
	for _, decide := range wildTimes {
		for _, ts := range wildTimes {
			for _, id := range wildIds {
				w := wt(decide, []api.Name{name(ts, id), name(-ts, ^id)}, wildLens[:pick(len(wildLens)+1)], 0)
				d.Add(w)
				d.Add(api.Waiting{Match: w.Match, Bound: make(api.Binding, pick(3))})
				lists = append(lists, []api.Match{w.Match, {}})
			}
		}
		d.List()
		d.Take(wildTimes[pick(len(wildTimes))])
		d.Len()
		due.Merge(lists...)
	}
}

// deep: a match of so many names, whose last name has this id.
func deep(n int, id uint64) api.Waiting {
	names := make([]api.Name, n)
	for i := range names {
		names[i].Ts = int64(i)
	}
	names[n-1].Id = id
	return wt(5, names, make([]int, n), int(id))
}

// Promise P1: matches of very many names, and lengths, and lists bound.
func TestLongLists(t *testing.T) {
	const many = 1 << 18
	one, two := deep(many, 1), deep(many, 2)
	one.Bound, two.Bound = make(api.Binding, many), api.Binding{make([]api.Event, many)}
	d := of(t, two, one)
	added(t, d, false, deep(many, 1), deep(many, 2))
	l := d.List()
	if len(l) != 2 || l[0].Names[many-1].Id != 1 || l[1].Names[many-1].Id != 2 || len(l[0].Bound) != many || len(l[1].Bound[0]) != many {
		t.Errorf("14.4: %d wait", len(l))
	}
	if m := due.Merge(matches(l), matches(l)); len(m) != 4 || m[1].Names[many-1].Id != 1 || m[2].Names[many-1].Id != 2 {
		t.Errorf("14.5: %d matches", len(m))
	}
	if l := d.Take(5); len(l) != 2 || d.Len() != 0 {
		t.Errorf("14.3: %d are taken", len(l))
	}
}

// Promise P1: very many matches, all decided at one time and alike in their ends and lengths, end in time.
func TestManyMatches(t *testing.T) {
	const many = 100000
	d := due.New()
	nth := func(i int) api.Waiting {
		return wt(9, []api.Name{name(0, 0), name(1, uint64(i*7919%many)), name(9, 0)}, []int{1, 2}, i)
	}
	for i := range many {
		if !d.Add(nth(i)) || i%2 == 0 && d.Add(nth(i/2)) {
			t.Fatalf("14.2: the match %d", i)
		}
	}
	l := d.List()
	if len(l) != many || !rising(l) {
		t.Errorf("14.4: %d wait", len(l))
	}
	if m := due.Merge(matches(l), matches(l)); len(m) != 2*many || !slices.IsSortedFunc(m, compare) {
		t.Errorf("14.5: %d matches", len(m))
	}
	if l = d.Take(9); len(l) != many || !rising(l) || d.Len() != 0 {
		t.Errorf("14.3: %d are taken", len(l))
	}
}

// piece: a list of an answer, or of what was handed in, with its spare room.
type piece struct {
	where  string
	tell   func() string // what stands in it, and where the lists in it lie
	scrawl func()        // writes over it, grows it within its spare room and beyond it, and writes over that
}

// pieceOf: a list. ink is what is written over it, look what is told of a thing in it.
func pieceOf[T any](where string, list []T, ink T, look func(T) string) piece {
	whole := list[:cap(list)]
	tell := func() string {
		var out []string
		for _, x := range whole {
			out = append(out, look(x))
		}
		return strings.Join(out, " ")
	}
	return piece{where, tell, func() {
		for grown := list; len(grown) < cap(list)+3; {
			grown = append(grown, ink)
			clear(grown)
		}
		for i := range whole {
			whole[i] = ink
		}
	}}
}

// lies: where a list lies, and how long it is.
func lies[T any](l []T) string { return fmt.Sprintf("%p %d %d", l, len(l), cap(l)) }

func piecesOfMatch(where string, m api.Match) []piece {
	return []piece{
		pieceOf(where+" Names", m.Names, name(-99, 99), func(n api.Name) string { return told(n) }),
		pieceOf(where+" Lens", m.Lens, -99, func(n int) string { return told(n) }),
		pieceOf(where+" Vals", m.Vals, api.Val{N: -99}, func(v api.Val) string { return told(v) }),
	}
}

func piecesOf(where string, w api.Waiting) []piece {
	out := piecesOfMatch(where, w.Match)
	out = append(out, pieceOf(where+" Bound", w.Bound, []api.Event{{Id: 99}}, lies[api.Event]))
	for i, list := range w.Bound {
		out = append(out, pieceOf(fmt.Sprint(where, " Bound ", i), list, api.Event{Type: -99}, func(e api.Event) string { return told(e) }))
	}
	return out
}

func listsOfMatch(m api.Match) string {
	return fmt.Sprint(m.Decide, lies(m.Names), lies(m.Lens), lies(m.Vals))
}

// piecesOfAll: those of an answer of List or Take.
func piecesOfAll(where string, l []api.Waiting) []piece {
	out := []piece{pieceOf(where, l, wt(-99, nil, nil, -99), func(w api.Waiting) string { return listsOfMatch(w.Match) + lies(w.Bound) })}
	for i, w := range l {
		out = append(out, piecesOf(fmt.Sprint(where, " ", i), w)...)
	}
	return out
}

// piecesOfMatches: those of a list of matches.
func piecesOfMatches(where string, l []api.Match) []piece {
	out := []piece{pieceOf(where, l, api.Match{Decide: -99}, listsOfMatch)}
	for i, m := range l {
		out = append(out, piecesOfMatch(fmt.Sprint(where, " ", i), m)...)
	}
	return out
}

// apart: does none of the pieces share memory with another one? Each is written over in turn, and the others are looked at.
func apart(t *testing.T, pieces []piece) {
	t.Helper()
	was := make([]string, len(pieces))
	for i, p := range pieces {
		was[i] = p.tell()
	}
	for i, p := range pieces {
		p.scrawl()
		was[i] = p.tell()
		for j, q := range pieces {
			if q.tell() != was[j] {
				t.Fatalf("14.7: who writes into %s changes %s", p.where, q.where)
			}
		}
	}
}

// Pieces that share memory are told from such as do not.
func TestPieces(t *testing.T) {
	for _, c := range []struct {
		one, other [3]int // from, to, the end of the spare room
		shares     bool
	}{
		{[3]int{0, 2, 5}, [3]int{1, 2, 5}, true},
		{[3]int{0, 0, 5}, [3]int{4, 5, 5}, true},
		{[3]int{0, 1, 5}, [3]int{2, 2, 3}, true},
		{[3]int{3, 5, 5}, [3]int{0, 2, 4}, true},
		{[3]int{0, 1, 1}, [3]int{1, 2, 5}, false},
		{[3]int{2, 4, 5}, [3]int{0, 2, 2}, false},
	} {
		l := make([]int, 5)
		of := func(cut [3]int) piece {
			return pieceOf("", l[cut[0]:cut[1]:cut[2]], 7, func(n int) string { return told(n) })
		}
		was := of(c.other).tell()
		of(c.one).scrawl()
		if (of(c.other).tell() != was) != c.shares {
			t.Errorf("%v and %v", c.one, c.other)
		}
	}
}

// woven: a waiting match whose lists are cut from few pieces of memory, some of them twice, with spare room behind them.
func woven(pick func(int) int, sign int) api.Waiting {
	names, lens, vals, events := make([]api.Name, 9), make([]int, 9), make([]api.Val, 9), make([]api.Event, 9)
	for i := range 9 {
		names[i], lens[i], vals[i], events[i] = name(int64(i), uint64(sign)), i, api.Val{Known: true, N: int64(sign)}, api.Event{Ts: int64(i), Type: sign}
	}
	at := pick(5)
	bound := api.Binding{events[at : at+2], events[at : at+2], events[at+1 : at+4], events[:0], nil, events[8:]}
	return api.Waiting{Match: api.Match{Decide: int64(pick(4)), Names: names[at : at+pick(4)], Lens: lens[:pick(4)], Vals: vals[at : pick(3)+at]}, Bound: bound[:pick(len(bound)+1)]}
}

// Promises 14.2 and P2: what was handed in is not changed, and who writes into it later, or grows it, changes nothing: neither where it was added nor where it was refused.
func TestWhatIsHandedInStays(t *testing.T) {
	pick := scatter(111)
	for round := range 300 {
		p := open(t, fmt.Sprint("script ", round))
		for sign := range 20 {
			w := woven(scatter(uint64(20*round+sign/2)), sign/2) // each one twice
			was := told(w)
			pieces := piecesOf("what was handed in:", w)
			spare := make([]string, len(pieces))
			for i, piece := range pieces {
				spare[i] = piece.tell()
			}
			p.add(w)
			if told(w) != was || !slices.EqualFunc(pieces, spare, func(p piece, was string) bool { return p.tell() == was }) {
				t.Fatalf("P2: %s: Add has changed what was handed in: %s, was %s", p.where, told(w), was)
			}
			for _, piece := range pieces {
				piece.scrawl()
				p.asked(piece.where + " written over")
			}
			if pick(6) == 0 {
				p.take(int64(pick(4)))
			}
		}
		p.take(9)
	}
}

// Promise 14.7: what List and Take answer shares nothing with what was handed in, with another answer, nor one list of it with another one; written over and grown it changes nothing that waits.
func TestAnswersAreNew(t *testing.T) {
	pick := scatter(121)
	for round := range 60 {
		p := open(t, fmt.Sprint("script ", round))
		var pieces []piece
		for sign := range 3 {
			w := cloned(woven(pick, sign))
			p.add(w)
			p.add(woven(pick, sign+10))
			pieces = append(pieces, piecesOf(fmt.Sprint("handed in ", sign), w)...)
		}
		pieces = append(pieces, piecesOfAll("List", p.due.List())...)
		mark := int64(pick(4))
		pieces = append(pieces, piecesOfAll("Take", p.take(mark))...)
		pieces = append(pieces, piecesOfAll("List behind Take", p.due.List())...)
		pieces = append(pieces, piecesOfAll("another List", p.due.List())...)
		apart(t, pieces)
		p.asked("all answers written over")
		p.add(woven(pick, 77))
		p.take(9)
	}
}

// Promise 14.7: what was handed in shares nothing with the answers: each of its lists by itself.
func TestAnswersShareNothingWithWhatWasHandedIn(t *testing.T) {
	for _, take := range []bool{false, true} {
		w := w("5 1/1,3/2 2", 1)
		d := of(t, w)
		l := d.List()
		if take {
			l = d.Take(5)
		}
		apart(t, append(piecesOf("handed in", w), piecesOfAll("answered", l)...))
	}
}

// Promise 14.7: answers that were told stay as they are, whatever is added and taken later.
func TestAnswersStay(t *testing.T) {
	pick := scatter(131)
	for round := range 200 {
		p := open(t, fmt.Sprint("script ", round))
		var answers [][]api.Waiting
		var were []string
		for sign := range 30 {
			p.draw(pick, sign)
			l := p.due.List()
			if pick(4) == 0 {
				l = p.take(drawMark(pick))
			}
			answers, were = append(answers, l), append(were, told(l))
		}
		for i, l := range answers {
			if told(l) != were[i] {
				t.Fatalf("14.7: %s: an answer was changed later: %s, was %s", p.where, told(l), were[i])
			}
		}
	}
}

// Promises 14.7 and P2: Merge changes none of its lists, and its answer shares nothing with them, nor one list of it with another one: of lists that stand there twice, and of matches that share their lists, neither.
func TestMergeIsNew(t *testing.T) {
	pick := scatter(141)
	for range 100 {
		one := []api.Match{woven(pick, 1).Match, woven(pick, 2).Match, woven(pick, 1).Match}
		two := make([]api.Match, 1, 3)
		two[0] = woven(pick, 3).Match
		shared := two[0]
		shared.Names = shared.Names[:len(shared.Names)/2]
		lists := [][]api.Match{one, {shared, two[0]}, two, one}
		was := told(lists)
		spare := told(two[:3])
		m, other := due.Merge(lists...), due.Merge(lists...)
		if told(lists) != was || told(two[:3]) != spare {
			t.Fatalf("P2: Merge has changed its lists: %s, was %s", told(lists), was)
		}
		apart(t, append(piecesOfMatches("Merge", m), piecesOfMatches("another Merge", other)...))
		if told(lists) != was {
			t.Fatalf("14.7: who writes into what Merge has answered changes its lists: %s, was %s", told(lists), was)
		}
		m = due.Merge(lists...)
		want := told(m)
		for i, l := range lists {
			for _, piece := range piecesOfMatches(fmt.Sprint("list ", i), l) {
				piece.scrawl()
			}
		}
		clear(lists)
		if told(m) != want {
			t.Fatalf("14.7: who writes into Merge's lists changes what it has answered: %s, was %s", told(m), want)
		}
	}
}

// Promise P3: two in turns know nothing of each other.
func TestTwoInTurns(t *testing.T) {
	pick := scatter(151)
	for round := range 200 {
		both := []*pair{open(t, fmt.Sprint("script ", round, ", one")), open(t, fmt.Sprint("script ", round, ", another one"))}
		for sign := range 60 {
			if w := drawWaiting(pick, sign); pick(3) == 0 { // the same one for both
				both[0].add(w)
				both[1].add(w)
			} else {
				both[pick(2)].draw(pick, sign)
			}
			both[0].asked("a step of the other one")
			both[1].asked("a step of the other one")
		}
	}
}

// answers: what scattered steps are answered, as a text.
func answers(seed uint64) string {
	pick := scatter(seed)
	d := due.New()
	var out strings.Builder
	for sign := range 300 {
		if pick(6) == 0 {
			l := d.Take(drawMark(pick))
			fmt.Fprintf(&out, "%+v\n", due.Merge(matches(l), matches(d.List()), matches(l)))
		} else {
			fmt.Fprintln(&out, d.Add(drawWaiting(pick, sign)))
		}
		fmt.Fprintf(&out, "%d %+v\n", d.Len(), d.List())
	}
	return out.String()
}

// Promise P3: the same steps, the same answers, whatever others are told at that time.
func TestSameStepsSameAnswers(t *testing.T) {
	want := make([]string, 6)
	for seed := range want {
		want[seed] = answers(uint64(seed))
	}
	got := make([]string, 4*len(want))
	var group sync.WaitGroup
	for i := range got {
		group.Go(func() { got[i] = answers(uint64(i % len(want))) })
	}
	group.Wait()
	for i, g := range got {
		if g != want[i%len(want)] {
			t.Errorf("P3: the steps %d are answered otherwise", i%len(want))
		}
	}
}

// Promise P4: an Add that refuses changes nothing: of two that are told the same one is told refused ones in between, and every later call of both answers the same.
func TestRefusalsChangeNothing(t *testing.T) {
	pick := scatter(161)
	refused := 0
	for round := range 200 {
		p, q := open(t, fmt.Sprint("script ", round)), open(t, fmt.Sprint("script ", round, ", refusals"))
		for sign := range 60 {
			for _, w := range q.want.list() {
				w.Vals, w.Bound = []api.Val{{N: 7}}, api.Binding{{{Ts: 7}}}
				if q.due.Add(w) {
					t.Fatalf("14.2: %s: an alike one is added", q.where)
				}
				refused++
			}
			q.asked("refusals")
			seed := uint64(pick(1 << 20))
			p.draw(scatter(seed), sign)
			q.draw(scatter(seed), sign)
		}
		if mark := drawMark(pick); !same(p.take(mark), q.take(mark)) {
			t.Fatalf("P4: %s: Take(%d)", p.where, mark)
		}
	}
	if refused < 10000 {
		t.Errorf("P4: %d were refused: too few", refused)
	}
}

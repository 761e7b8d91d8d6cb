package due

import (
	"runtime"
	"slices"
	"testing"
	"weak"

	"sluice/api"
)

// single: a match of one name.
func single(decide, ts int64, id uint64) api.Waiting {
	return api.Waiting{Match: api.Match{Decide: decide, Names: []api.Name{{Ts: ts, Id: id}}, Lens: []int{1}}, Bound: api.Binding{make([]api.Event, 1)}}
}

// level: unlike matches of one name and of one digest: the id makes up for the timestamp.
func level(decide int64, n int) []api.Waiting {
	var out []api.Waiting
	for ts := range int64(n) {
		out = append(out, single(decide, ts, 1000-stir(0, uint64(ts))))
	}
	return out
}

// Promises 14.2 and 14.3: unlike matches that have the digest in common wait side by side, are refused each by itself, leave together, and may come back.
func TestUnlikeOnesOfOneDigest(t *testing.T) {
	early, late := level(3, 6), level(4, 6)
	if digestOf(early[0]) != digestOf(early[5]) || digestOf(early[0]) == digestOf(late[0]) || digestOf(early[0]).sum != digestOf(late[0]).sum {
		t.Fatal("they have not the digest in common that they should have")
	}
	d := New()
	for range 3 {
		for i := range early {
			for _, l := range [][]api.Waiting{early[:i+1], late[:i+1]} {
				for j, w := range l {
					if d.Add(w) != (j == i) {
						t.Fatalf("14.2: Add of %+v behind %d of its digest", w.Match, i)
					}
				}
			}
		}
		if got := d.Take(3); len(got) != 6 || d.Len() != 6 || len(d.kept) != 1 {
			t.Errorf("14.3: %d are taken, %d are left, with %d digests", len(got), d.Len(), len(d.kept))
		}
		for _, w := range late {
			if d.Add(w) {
				t.Errorf("14.2: %+v is added twice", w.Match)
			}
		}
		if got := d.Take(4); len(got) != 6 || d.Len() != 0 || len(d.kept) != 0 {
			t.Errorf("14.3: %d are taken, %d are left, with %d digests", len(got), d.Len(), len(d.kept))
		}
	}
}

// Promise 14.2: the same of matches with the same names: their lengths are asked one by one.
func TestUnlikeLengthsOfOneDigest(t *testing.T) {
	of := func(lens ...int) api.Waiting {
		w := single(3, 1, 1)
		w.Lens = lens
		return w
	}
	start := digestOf(of()).sum
	d := New()
	for n := range 6 {
		w := of(n, 1000-int(stir(start, uint64(n))))
		if digestOf(w) != digestOf(of(0, 1000-int(stir(start, 0)))) {
			t.Fatal("they have not the digest in common that they should have")
		}
		if !d.Add(w) || d.Add(w) || d.Len() != n+1 {
			t.Errorf("14.2: Add of %+v", w.Match)
		}
	}
	if got := d.Take(3); len(got) != 6 || got[5].Lens[0] != 5 {
		t.Errorf("14.3: %+v", got)
	}
}

// The digest looks at all that makes matches alike, and at nothing else.
func TestDigests(t *testing.T) {
	of := func(decide int64, names []api.Name, lens ...int) digest {
		return digestOf(api.Waiting{Match: api.Match{Decide: decide, Names: names, Lens: lens}})
	}
	a, b, c := api.Name{Ts: 1, Id: 1}, api.Name{Ts: 3, Id: 2}, api.Name{Ts: 2, Id: 3}
	seen := []digest{
		of(5, []api.Name{a, b}, 2), of(6, []api.Name{a, b}, 2), of(5, []api.Name{b, a}, 2), of(5, []api.Name{a, c}, 2), of(5, []api.Name{a}, 2), of(5, nil, 2), of(5, nil),
		of(5, []api.Name{{}}), of(5, []api.Name{{}, {}}), of(5, []api.Name{a, b}), of(5, []api.Name{a, b}, 1, 1), of(5, []api.Name{a, b}, 1, 2), of(5, []api.Name{a, b}, 2, 1),
	}
	for i, g := range seen {
		if slices.Index(seen, g) != i {
			t.Errorf("the digests %d and %d are the same", i, slices.Index(seen, g))
		}
	}
	w := single(5, 1, 1)
	was := digestOf(w)
	w.Vals, w.Bound = []api.Val{{N: 5}}, nil
	if digestOf(w) != was {
		t.Error("results and what is bound count")
	}
}

// Few of the matches that a search may find have a digest in common, so that few are held against each other: of names that differ in their last bits, and in their first bits.
func TestDigestsSpread(t *testing.T) {
	const side = 60
	for _, shift := range []int{0, 20, 58} {
		d := New()
		for a := range uint64(side) {
			for b := range uint64(side) {
				for c := range uint64(side) {
					names := []api.Name{{Ts: 1, Id: a << shift}, {Ts: 2, Id: b << shift}, {Ts: int64(2 + c), Id: (a ^ c) << shift}}
					d.Add(api.Waiting{Match: api.Match{Decide: 500, Names: names, Lens: []int{1, 2}}})
				}
			}
		}
		if d.Len() != side*side*side || len(d.kept) < d.Len()-10 {
			t.Errorf("%d matches have %d digests", d.Len(), len(d.kept))
		}
	}
}

// What was taken is not kept: with nobody else who has it, its memory comes free, and what has its like is not held against it.
func TestWhatIsTakenIsLetGo(t *testing.T) {
	d := New()
	var names []weak.Pointer[api.Name]
	var events []weak.Pointer[api.Event]
	for i := range int64(100) {
		w := single(i/10, i, 0)
		d.Add(w)
		k := d.kept[digestOf(w)]
		names, events = append(names, weak.Make(&k.Names[0])), append(events, weak.Make(&k.Bound[0][0]))
	}
	d.Take(5)
	runtime.GC()
	if d.Len() != 40 || len(d.kept) != 40 {
		t.Errorf("%d wait, with %d digests", d.Len(), len(d.kept))
	}
	for i := range names {
		if taken := i < 60; (names[i].Value() == nil) != taken || (events[i].Value() == nil) != taken {
			t.Errorf("the match %d", i)
		}
	}
	runtime.KeepAlive(d)
}

// What was refused is not kept, and what was handed in neither.
func TestWhatIsHandedInIsLetGo(t *testing.T) {
	d := New()
	var marks []weak.Pointer[api.Name]
	for range 2 {
		w := single(1, 1, 1)
		marks = append(marks, weak.Make(&w.Names[0]))
		d.Add(w)
	}
	empty := single(2, 2, 2)
	marks = append(marks, weak.Make(&empty.Names[0]))
	empty.Names = empty.Names[:0]
	d.Add(empty)
	runtime.GC()
	for i, m := range marks {
		if m.Value() != nil {
			t.Errorf("the match %d is kept as it was handed in", i)
		}
	}
	runtime.KeepAlive(d)
}

package check_test

import (
	"fmt"
	"math"
	"slices"
	"strings"
	"sync"
	"testing"

	"sluice/api"
	"sluice/check"
	"sluice/event"
	"sluice/show"
)

var wildNumbers = []int{math.MinInt, math.MinInt + 1, -2, -1, 0, 1, 2, 3, 5, 1000, math.MaxInt - 1, math.MaxInt}

var wildWords = []string{"", "a", "v0", "v1", "z", "x", "k", "ts", "A", "Q", "seq", "1", "a b", "\xff", "é", "abcdefghijklmnopq"}

// spoil sets one cell of a node to some value.
func spoil(n *api.Node, pick func(int) int) {
	number, word := wildNumbers[pick(len(wildNumbers))], wildWords[pick(len(wildWords))]
	switch pick(6) {
	case 0:
		n.Op = api.Op(pick(30) - 1)
	case 1:
		n.N = int64(number)
	case 2:
		n.Var = word
	case 3:
		n.Attr = word
	case 4:
		n.A = number
	case 5:
		n.B = number
	}
}

// anyTree: one that is well shaped, or was, or is anything.
func anyTree(pick func(int) int) []api.Node {
	g := grower{pick: pick, odd: 10, items: []api.Item{{Types: []string{"A"}, Var: "v0", Hi: 1}, {Types: []string{"B"}, Var: "v1", Hi: 2}}}
	list := nodes(g.where(pick(6)))
	switch pick(4) {
	case 0:
		for range 1 + pick(3) {
			spoil(&list[pick(len(list))], pick)
		}
	case 1:
		list = list[pick(len(list)):]
	case 2:
		list = list[:pick(len(list))]
	}
	return list
}

// anyQuery: a well shaped one, or one in which something is anything.
func anyQuery(pick func(int) int) api.Query {
	q := grower{pick: pick, odd: 30}.query().query()
	number, word := wildNumbers[pick(len(wildNumbers))], wildWords[pick(len(wildWords))]
	switch i := &q.Items[pick(len(q.Items))]; pick(16) {
	case 0:
		i.Lo = number
	case 1:
		i.Hi = number
	case 2:
		i.Types = append(slices.Clone(i.Types), word)
	case 3:
		i.Types = nil
	case 4:
		i.Var = word
	case 5:
		q.Mode = api.Mode(number)
	case 6:
		q.After = api.After(number)
	case 7:
		q.Within = int64(number)
	case 8:
		q.By = word
	case 9:
		q.Where = anyTree(pick)
	case 10:
		q.Ret = append(q.Ret, anyTree(pick))
	case 11:
		q.Items = nil
	}
	return q
}

func anySchema(pick func(int) int) api.Schema {
	if pick(3) > 0 {
		return grounds
	}
	var s api.Schema
	for range pick(4) {
		s.Types = append(s.Types, api.TypeDef{Name: wildWords[pick(len(wildWords))], Attrs: []string{wildWords[pick(len(wildWords))], "k"}})
	}
	return s
}

// anySpots: lists of any length.
func anySpots(pick func(int) int) api.Spots {
	list := func() []int { return slices.Clone(wildNumbers[:pick(5)]) }
	sp := api.Spots{Items: list(), Where: list(), Within: pick(9), By: pick(9)}
	for range pick(4) {
		sp.Ret = append(sp.Ret, list())
	}
	return sp
}

// given: what all calls are asked with.
type given struct {
	s     api.Schema
	q     api.Query
	t     []api.Node
	root  int
	spots api.Spots
	f     api.Flaw
}

func anyGiven(pick func(int) int) given {
	number := func() int { return wildNumbers[pick(len(wildNumbers))] }
	g := given{s: anySchema(pick), q: anyQuery(pick), t: anyTree(pick), root: number(), spots: anySpots(pick)}
	if pick(3) > 0 && len(g.t) > 0 {
		g.root = pick(len(g.t))
	}
	g.f = api.Flaw{Code: api.Errno(number()), Part: api.Part(pick(8) - 1), Index: number(), Sub: number()}
	return g
}

// answers: what all calls say.
func (g given) answers() string {
	return fmt.Sprintln(told(check.Check(g.s, g.q)), check.Size(g.t, g.root), check.Sub(g.t, g.root), check.Conjuncts(g.t), check.IsTruth(g.t), check.Uses(g.q, g.t), check.Place(g.spots, g.f))
}

func TestEveryCallEnds(t *testing.T) {
	pick := scatter(6)
	for range 20000 {
		g := anyGiven(pick)
		g.answers()
		f := check.Check(g.s, g.q)
		if code := event.CheckSchema(g.s); code != api.OK {
			if f != (api.Flaw{Code: code}) {
				t.Fatalf("rule 1: %+v: %s", g.s, told(f))
			}
			continue
		}
		if (f == api.Flaw{Code: api.ErrShape}) == show.Shaped(g.q) || f.Code == api.OK && f != none {
			t.Fatalf("rule 2: %+v: %s", g.q, told(f))
		}
		if show.Tree(g.t) != (len(check.Conjuncts(g.t)) > 0) || len(check.Sub(g.t, g.root)) != check.Size(g.t, g.root) {
			t.Fatalf("%+v: %v, %d", g.t, check.Conjuncts(g.t), g.root)
		}
	}
	g := given{}
	if got := fmt.Sprintln(told(api.Flaw{Code: api.ErrSchemaTypes}), 0, []api.Node{}, []int{}, false, api.Use{}, 0); g.answers() != got {
		t.Errorf("P1: of nothing: %s", g.answers())
	}
}

// many: how long the lists are of which much is asked.
const many = 200000

// longTrees: ANDs to the left and to the right, NOTs and sums; all but the second begin with v.x.
func longTrees() (left, right, nots, sums []api.Node) {
	left, nots, sums = treeOf("v.x = 1"), treeOf("v.x = 1"), treeOf("v.x")
	yes := api.Node{Op: api.OpTrue, A: -1, B: -1}
	for i := range many {
		left = append(left, yes, api.Node{Op: api.OpAnd, A: 2*i + 2, B: 2*i + 3})
		nots = append(nots, api.Node{Op: api.OpNot, A: i + 2, B: -1})
		sums = append(sums, api.Node{Op: api.OpNum, A: -1, B: -1}, api.Node{Op: api.OpAdd, A: 2 * i, B: 2*i + 1})
		right = append(right, yes)
	}
	for i := many - 2; i >= 0; i-- {
		right = append(right, api.Node{Op: api.OpAnd, A: i, B: len(right) - 1})
	}
	return
}

func TestLongTrees(t *testing.T) {
	left, right, nots, sums := longTrees()
	for i, c := range []struct {
		tree      []api.Node
		conjuncts int
		where     api.Flaw
		result    api.Flaw
	}{
		{left, many + 1, none, inResult(api.ErrKind, 0, 2*many+2)},
		{right, many, none, inResult(api.ErrKind, 0, 2*many-2)},
		{nots, 1, none, inResult(api.ErrKind, 0, many+2)},
		{sums, 1, inWhere(api.ErrKind, 2*many), none},
	} {
		last := len(c.tree) - 1
		if check.Size(c.tree, last) != len(c.tree) || check.Size(c.tree, 0) != 1 || !slices.Equal(check.Sub(c.tree, last), c.tree) || check.Size(c.tree[1:], 0) != 0 {
			t.Errorf("P1: tree %d: Size and Sub", i)
		}
		if got := check.Conjuncts(c.tree); len(got) != c.conjuncts || !slices.IsSorted(got) {
			t.Errorf("P1: tree %d: %d conjuncts", i, len(got))
		}
		q := queryOf("SEQ(A v) WITHIN 5")
		q.Where = c.tree
		if got := check.Check(grounds, q); got != c.where {
			t.Errorf("P1: tree %d as Where: %s", i, told(got))
		}
		q.Where, q.Ret = nil, [][]api.Node{c.tree}
		if got := check.Check(grounds, q); got != c.result {
			t.Errorf("P1: tree %d as a result: %s", i, told(got))
		}
	}
}

func TestLongQueries(t *testing.T) {
	where := treeOf("v.x = w.x")
	for len(where) < many {
		where = and(where, where)
	}
	where = and(where, treeOf("r.x = w.x"))
	q := queryOf("SEQ(A v, A+ r, !A w) WITHIN 5")
	q.Where = where
	if got := check.Check(grounds, q); got != inWhere(api.ErrMix, len(where)-2) {
		t.Errorf("P1: %d nodes of Where: %s", len(where), told(got))
	}
	if got := check.Uses(q, where); !alike(got, api.Use{Bare: []int{0, 1, 2}}) {
		t.Errorf("P1: %d nodes mention %+v", len(where), got)
	}
	q = queryOf("SEQ(A v) WITHIN 5")
	q.Items[0].Types = slices.Repeat([]string{"A"}, many)
	if got := check.Check(grounds, q); got != inItem(api.ErrTypeTwice, 0) {
		t.Errorf("P1: %d types: %s", many, told(got))
	}
	q.Items[0].Types[many-1] = "Q"
	if got := check.Check(grounds, q); got != inItem(api.ErrNoType, 0) {
		t.Errorf("P1: %d types: %s", many, told(got))
	}
	q = queryOf("SEQ(A v) WITHIN 5")
	q.Ret = slices.Repeat([][]api.Node{treeOf("v.x")}, many)
	if got := check.Check(grounds, q); got != inResult(api.ErrReturns, 8, 0) {
		t.Errorf("P1: %d results: %s", many, told(got))
	}
	q.Items = slices.Repeat(q.Items, many)
	if got := check.Uses(q, treeOf("v.x + COUNT(v)")); !alike(got, api.Use{Bare: []int{0}, Agg: []int{0}}) {
		t.Errorf("P1: of %d items %+v are mentioned", many, got)
	}
}

// roomy: the list with room behind it, in which something stands.
func roomy[T any](list []T, behind T) []T {
	return append(slices.Clone(list), behind, behind)[:len(list)]
}

// whole: a list with its spare room.
func whole[T any](list []T) []T { return list[:cap(list)] }

var odd = api.Node{Op: api.OpOr, N: 9, Var: "odd", Attr: "odd", A: 1, B: 2}

// spare: the same, in lists of its own with something behind each.
func (g given) spare() given {
	g.s.Types = roomy(g.s.Types, api.TypeDef{Name: "Odd"})
	for i := range g.s.Types {
		g.s.Types[i].Attrs = roomy(g.s.Types[i].Attrs, "odd")
	}
	g.q.Items, g.q.Where, g.q.Ret = roomy(g.q.Items, api.Item{Var: "odd"}), roomy(g.q.Where, odd), roomy(g.q.Ret, []api.Node{odd})
	for i := range g.q.Items {
		g.q.Items[i].Types = roomy(g.q.Items[i].Types, "Odd")
	}
	for i := range g.q.Ret {
		g.q.Ret[i] = roomy(g.q.Ret[i], odd)
	}
	g.t = roomy(g.t, odd)
	g.spots.Items, g.spots.Where, g.spots.Ret = roomy(g.spots.Items, 77), roomy(g.spots.Where, 77), roomy(g.spots.Ret, []int{77})
	for i := range g.spots.Ret {
		g.spots.Ret[i] = roomy(g.spots.Ret[i], 77)
	}
	return g
}

// everything: what is given, with the spare room of all lists.
func (g given) everything() string {
	var out strings.Builder
	fmt.Fprintf(&out, "%#v %#v %#v %#v %#v %#v %#v %#v %#v", g, whole(g.s.Types), whole(g.q.Items), whole(g.q.Where), whole(g.q.Ret), whole(g.t), whole(g.spots.Items), whole(g.spots.Where), whole(g.spots.Ret))
	for _, t := range g.s.Types {
		fmt.Fprintf(&out, "%#v", whole(t.Attrs))
	}
	for _, i := range g.q.Items {
		fmt.Fprintf(&out, "%#v", whole(i.Types))
	}
	for _, r := range g.q.Ret {
		fmt.Fprintf(&out, "%#v", whole(r))
	}
	for _, r := range g.spots.Ret {
		fmt.Fprintf(&out, "%#v", whole(r))
	}
	return out.String()
}

func TestWhatIsHandedInIsNotChanged(t *testing.T) {
	pick := scatter(7)
	for range 3000 {
		g := anyGiven(pick)
		spare := g.spare()
		before := spare.everything()
		got := spare.answers()
		if spare.everything() != before {
			t.Fatalf("P2: changed: %+v", g)
		}
		if got != g.answers() {
			t.Fatalf("P3: what stands behind a list counts: %+v", g)
		}
	}
}

func TestWhatIsHandedOutIsNew(t *testing.T) {
	pick := scatter(8)
	for range 3000 {
		g := anyGiven(pick).spare()
		sub, roots, use := check.Sub(g.t, g.root), check.Conjuncts(g.t), check.Uses(g.q, g.t)
		said := fmt.Sprint(sub, roots, use)
		before := g.everything()
		scribble(whole(check.Sub(g.t, g.root)), odd)
		scribble(whole(check.Conjuncts(g.t)), 77)
		again := check.Uses(g.q, g.t)
		lists := [][]int{again.Bare, again.Prev, again.Agg}
		for i := range lists {
			scribble(whole(lists[i]), -i-1)
		}
		for i, list := range lists {
			if slices.ContainsFunc(whole(list), func(x int) bool { return x != -i-1 }) {
				t.Fatalf("P2: two lists of one answer share memory: %+v", g)
			}
		}
		if g.everything() != before || fmt.Sprint(sub, roots, use) != said {
			t.Fatalf("P2: an answer shares memory: %+v", g)
		}
		scribble(g.t, odd)
		scribble(g.q.Items, api.Item{Var: "odd"})
		if fmt.Sprint(sub, roots, use) != said {
			t.Fatalf("P2: an answer changes with what was handed in: %+v", g)
		}
	}
}

// scribble writes over a whole list.
func scribble[T any](list []T, x T) {
	for i := range list {
		list[i] = x
	}
}

func TestSameArgumentsSameAnswers(t *testing.T) {
	pick := scatter(9)
	var all []given
	for range 3000 {
		all = append(all, anyGiven(pick))
	}
	tell := func() string {
		var out strings.Builder
		for _, g := range all {
			out.WriteString(g.answers())
		}
		return out.String()
	}
	want := tell()
	got := make([]string, 8)
	var group sync.WaitGroup
	for i := range got {
		group.Go(func() { got[i] = tell() })
	}
	group.Wait()
	slices.Reverse(all)
	tell()
	slices.Reverse(all)
	for _, g := range append(got, tell()) {
		if g != want {
			t.Error("P3: the same is answered otherwise")
		}
	}
}

package show_test

import (
	"fmt"
	"math"
	"slices"
	"strings"
	"sync"
	"testing"

	"sluice/api"
	"sluice/parse"
	"sluice/show"
)

// anyTrees: sound ones, and ones with cells of any value.
func anyTrees() [][]api.Node {
	pick := scatter()
	out := [][]api.Node{nil, {}, make([]api.Node, 1), make([]api.Node, 500)}
	for range 1000 {
		list := nodes(grown(pick(40), 1+pick(4), pick))
		out = append(out, slices.Clone(list))
		for range pick(3) {
			spoil(&list[pick(len(list))], pick)
		}
		at := pick(len(list))
		out = append(out, list, list[at:], list[:at])
		wild := make([]api.Node, pick(6))
		for i := range wild {
			for range 4 {
				spoil(&wild[i], pick)
			}
		}
		out = append(out, wild)
	}
	return out
}

// spoil sets one cell to some value.
func spoil(n *api.Node, pick func(int) int) {
	numbers := []int{math.MinInt, math.MinInt + 1, -2, -1, 0, 1, 2, 3, 5, 1000, math.MaxInt - 1, math.MaxInt}
	some := numbers[pick(len(numbers))]
	word := append(slices.Clone(noNames), names...)[pick(len(noNames)+len(names))]
	switch pick(6) {
	case 0:
		n.Op = api.Op(pick(30) - 1)
	case 1:
		n.N = int64(some)
	case 2:
		n.Var = word
	case 3:
		n.Attr = word
	case 4:
		n.A = some
	case 5:
		n.B = some
	}
}

func anyQueries() []api.Query {
	pick := scatter()
	trees := anyTrees()
	out := []api.Query{{}, {Items: []api.Item{}}, {Items: make([]api.Item, 3)}, full()}
	for range 1000 {
		q := grownQuery(9, pick).query()
		out = append(out, q)
		q.Items = slices.Clone(q.Items)
		switch i := &q.Items[pick(len(q.Items))]; pick(8) {
		case 0:
			i.Lo = pick(4) - 2
		case 1:
			i.Hi = math.MinInt
		case 2:
			i.Types = append(slices.Clone(i.Types), noNames[pick(len(noNames))])
		case 3:
			q.Mode = api.Mode(pick(6) - 2)
		case 4:
			q.After = api.After(pick(8) - 2)
		case 5:
			q.Where = trees[pick(len(trees))]
		case 6:
			q.Ret = append(slices.Clone(q.Ret), trees[pick(len(trees))])
		case 7:
			q.By = noNames[pick(len(noNames))]
		}
		out = append(out, q)
	}
	return out
}

func TestEveryCallEnds(t *testing.T) {
	for _, list := range anyTrees() {
		got := exprOf(list)
		if show.Tree(list) == (got.code == api.ErrShape) || (got.code == api.OK) == (got.text == "") {
			t.Errorf("P1: Expr(%s) = %.300q, %d", short(list), got.text, got.code)
		}
		if back, _, code, _ := parse.Expr(got.text); got.code == api.OK && (code != api.OK || !slices.Equal(back, list)) {
			t.Errorf("5.5: Expr(%s) = %.300q is read otherwise", short(list), got.text)
		}
	}
	for _, q := range anyQueries() {
		got := printOf(q)
		if show.Shaped(q) == (got.code == api.ErrShape) || (got.code == api.OK) == (got.text == "") {
			t.Errorf("P1: Print(%s) = %.300q, %d", short(q), got.text, got.code)
		}
		if back, _, code, _ := parse.Parse(got.text); got.code == api.OK && (code != api.OK || !alike(back, q)) {
			t.Errorf("5.5: Print(%s) = %.300q is read otherwise", short(q), got.text)
		}
	}
}

// roomy: the list with room behind it, in which something stands.
func roomy[T any](list []T, behind T) []T {
	out := append(slices.Clone(list), behind, behind)
	return out[:len(list)]
}

// whole: a list with its spare room.
func whole[T any](list []T) []T { return list[:cap(list)] }

func TestWhatIsHandedInIsNotChanged(t *testing.T) {
	odd := api.Node{Op: api.OpOr, N: 9, Var: "odd", A: 1, B: 2}
	for _, list := range anyTrees() {
		given := roomy(list, odd)
		before := slices.Clone(whole(given))
		good, got := show.Tree(given), exprOf(given)
		if !slices.Equal(whole(given), before) {
			t.Errorf("P2: %s is changed", short(list))
		}
		if good != show.Tree(list) || got != exprOf(list) {
			t.Errorf("P3: what stands behind a list counts: %s", short(list))
		}
		text := strings.Clone(got.text)
		for i := range given {
			given[i] = odd
		}
		if got.text != text {
			t.Errorf("P2: a text is changed with its tree: %q", text)
		}
	}
	for _, q := range anyQueries() {
		given := q
		given.Items, given.Where, given.Ret = roomy(q.Items, item("odd")), roomy(q.Where, odd), roomy(q.Ret, []api.Node{odd})
		for i := range given.Items {
			given.Items[i].Types = roomy(given.Items[i].Types, "odd")
		}
		for i := range given.Ret {
			given.Ret[i] = roomy(given.Ret[i], odd)
		}
		before := everything(given)
		good, got := show.Shaped(given), printOf(given)
		if everything(given) != before {
			t.Errorf("P2: %s is changed", short(q))
		}
		if good != show.Shaped(q) || got != printOf(q) {
			t.Errorf("P3: what stands behind a list counts: %s", short(q))
		}
	}
}

// everything: a query with the spare room of its lists.
func everything(q api.Query) string {
	out := fmt.Sprintf("%#v %#v %#v %#v", q, whole(q.Items), whole(q.Where), whole(q.Ret))
	for _, i := range q.Items {
		out += fmt.Sprintf("%#v", whole(i.Types))
	}
	for _, r := range q.Ret {
		out += fmt.Sprintf("%#v", whole(r))
	}
	return out
}

func TestSameArgumentsSameAnswers(t *testing.T) {
	trees, queries := anyTrees(), anyQueries()
	tell := func() string {
		var out strings.Builder
		for _, list := range trees {
			fmt.Fprintln(&out, show.Tree(list), exprOf(list))
		}
		for _, q := range queries {
			fmt.Fprintln(&out, show.Shaped(q), printOf(q))
		}
		return out.String()
	}
	want := tell()
	got := make([]string, 8)
	var group sync.WaitGroup
	for i := range got {
		group.Go(func() { got[i] = tell() })
	}
	group.Wait()
	for _, g := range append(got, tell()) {
		if g != want {
			t.Error("P3: the same trees and queries are answered otherwise")
		}
	}
	slices.Reverse(trees)
	slices.Reverse(queries)
	tell()
	slices.Reverse(trees)
	slices.Reverse(queries)
	if tell() != want {
		t.Error("P3: what was asked ahead counts")
	}
}

package check_test

import (
	"math"
	"slices"
	"testing"

	"sluice/api"
	"sluice/check"
	"sluice/show"
)

func alike(a, b api.Use) bool {
	return slices.Equal(a.Bare, b.Bare) && slices.Equal(a.Prev, b.Prev) && slices.Equal(a.Agg, b.Agg)
}

func TestSizes(t *testing.T) {
	for _, c := range []struct {
		text string
		want []int
	}{
		{"1", []int{1}},
		{"a.x", []int{1}},
		{"COUNT(a)", []int{1}},
		{"-1", []int{1, 2}},
		{"NOT NOT TRUE", []int{1, 2, 3}},
		{"1 + 2", []int{1, 1, 3}},
		{"1 + 2 * 3", []int{1, 1, 1, 3, 5}},
		{"1 * 2 + 3", []int{1, 1, 3, 1, 5}},
		{"-(1 + -2) = 3", []int{1, 1, 2, 4, 5, 1, 7}},
		{"(TRUE AND TRUE) AND (TRUE OR TRUE AND TRUE)", []int{1, 1, 3, 1, 1, 1, 3, 5, 9}},
	} {
		tree := treeOf(c.text)
		for root, want := range c.want {
			if got := check.Size(tree, root); got != want {
				t.Errorf("Size(%q, %d) = %d, want %d", c.text, root, got, want)
			}
		}
		if len(tree) != len(c.want) {
			t.Errorf("%q has %d nodes", c.text, len(tree))
		}
		expectNoPlaces(t, tree)
	}
}

// far: numbers that are no place of a list of that length.
func far(n int) []int {
	return []int{math.MinInt, math.MinInt + 1, -n - 1, -n, -2, -1, n, n + 1, 2 * n, math.MaxInt - 1, math.MaxInt}
}

// expectNoPlaces: at what is no place of the tree there is nothing.
func expectNoPlaces(t *testing.T, tree []api.Node) {
	t.Helper()
	for _, at := range far(len(tree)) {
		if at >= 0 && at < len(tree) {
			continue
		}
		if check.Size(tree, at) != 0 || len(check.Sub(tree, at)) != 0 {
			t.Errorf("the place %d of a tree of %d nodes", at, len(tree))
		}
	}
}

func TestSubtrees(t *testing.T) {
	tree := treeOf("-1 + a.x = SUM(b.y) AND NOT (c.z < 2 OR TRUE)")
	// 1 - a.x + SUM = c.z 2 < TRUE OR NOT AND
	for root, text := range []string{
		"1", "-1", "a.x", "-1 + a.x", "SUM(b.y)", "-1 + a.x = SUM(b.y)", "c.z", "2", "c.z < 2", "TRUE", "c.z < 2 OR TRUE", "NOT (c.z < 2 OR TRUE)",
		"-1 + a.x = SUM(b.y) AND NOT (c.z < 2 OR TRUE)",
	} {
		if got := check.Sub(tree, root); !slices.Equal(got, treeOf(text)) {
			t.Errorf("Sub(.., %d) = %+v, want the tree of %q", root, got, text)
		}
	}
	if got := check.Sub(tree, len(tree)-1); !slices.Equal(got, tree) {
		t.Errorf("Sub of the last place is %+v", got)
	}
	got := check.Sub(treeOf("7 < 1 + a.x"), 3)
	want := []api.Node{{Op: api.OpNum, N: 1, A: -1, B: -1}, {Op: api.OpAttr, Var: "a", Attr: "x", A: -1, B: -1}, {Op: api.OpAdd, A: 0, B: 1}}
	if !slices.Equal(got, want) {
		t.Errorf("Sub = %+v", got)
	}
	expectNoPlaces(t, tree)
}

func TestConjuncts(t *testing.T) {
	for _, c := range []struct {
		text string
		want []int
	}{
		{"TRUE", []int{0}},
		{"7", []int{0}},
		{"1 + 2", []int{2}},
		{"TRUE OR FALSE", []int{2}},
		{"NOT (TRUE AND FALSE)", []int{3}},
		{"TRUE AND FALSE", []int{0, 1}},
		{"TRUE AND FALSE AND TRUE", []int{0, 1, 3}},
		{"TRUE AND (FALSE AND TRUE)", []int{0, 1, 2}},
		{"(TRUE AND FALSE) AND (TRUE AND FALSE)", []int{0, 1, 3, 4}},
		{"(TRUE AND TRUE) AND (TRUE OR TRUE AND TRUE)", []int{0, 1, 7}},
		{"TRUE AND TRUE OR TRUE AND TRUE", []int{6}},
		{"(TRUE AND TRUE OR TRUE) AND NOT (TRUE AND TRUE)", []int{4, 8}},
		{"(TRUE AND FALSE) = (TRUE AND FALSE)", []int{6}},
		{"1 AND 2", []int{0, 1}},
		{"a.x = 1 AND b.x = 2 AND a.x < b.x", []int{2, 5, 9}},
		{"a.x = 1 AND (b.x = 2 AND (a.x < b.x AND NOT TRUE))", []int{2, 5, 8, 10}},
	} {
		if got := check.Conjuncts(treeOf(c.text)); !slices.Equal(got, c.want) {
			t.Errorf("Conjuncts(%q) = %v, want %v", c.text, got, c.want)
		}
	}
}

// Of lists that are no trees nothing is told but whether the last node is a truth.
func TestListsThatAreNoTrees(t *testing.T) {
	good := treeOf("TRUE AND a.x + 1 = 2")
	lists := [][]api.Node{nil, {}, make([]api.Node, 1), good[:len(good)-1], good[1:], append(slices.Clone(good), good...)}
	for at := range good {
		for _, change := range []func(*api.Node){
			func(n *api.Node) { n.A = 5 }, func(n *api.Node) { n.B = -2 }, func(n *api.Node) { n.N = -1 }, func(n *api.Node) { n.Op = 0 }, func(n *api.Node) { n.Op = 27 }, func(n *api.Node) { n.Var += "+" },
		} {
			bad := slices.Clone(good)
			change(&bad[at])
			lists = append(lists, bad)
		}
	}
	for _, list := range lists {
		if show.Tree(list) {
			t.Fatalf("%+v is a tree", list)
		}
		if got := check.Conjuncts(list); len(got) != 0 {
			t.Errorf("Conjuncts(%+v) = %v", list, got)
		}
		for at := -1; at <= len(list); at++ {
			if check.Size(list, at) != 0 || len(check.Sub(list, at)) != 0 {
				t.Errorf("the place %d of %+v", at, list)
			}
		}
	}
}

func TestTruths(t *testing.T) {
	truth := func(op api.Op) bool {
		return slices.Contains([]api.Op{2, 3, 13, 19, 20, 21, 22, 23, 24, 25, 26}, op)
	}
	if check.IsTruth(nil) || check.IsTruth([]api.Node{}) {
		t.Error("IsTruth of an empty list")
	}
	ops := []api.Op{math.MinInt, math.MaxInt}
	for op := api.Op(-3); op < 40; op++ {
		ops = append(ops, op)
	}
	for _, op := range ops {
		for _, n := range []api.Node{{Op: op}, {Op: op, A: -1, B: -1}, {Op: op, N: -7, Var: "1", Attr: "", A: 99, B: -99}} {
			for _, ahead := range [][]api.Node{nil, treeOf("TRUE"), treeOf("1 + 2"), {{Op: api.OpNot}, {Op: 99}}} {
				if got := check.IsTruth(append(slices.Clone(ahead), n)); got != truth(op) {
					t.Errorf("IsTruth of a last node %+v is %v", n, got)
				}
			}
		}
	}
}

func TestUses(t *testing.T) {
	q := queryOf("SEQ(A a, !B n, A+ b, A c, B d) WITHIN 1")
	for _, c := range []struct {
		text string
		want api.Use
	}{
		{"1 = 2", api.Use{}},
		{"TRUE", api.Use{}},
		{"a.x", api.Use{Bare: []int{0}}},
		{"n.ts", api.Use{Bare: []int{1}}},
		{"PREV(b.x)", api.Use{Bare: []int{2}, Prev: []int{2}}},
		{"COUNT(a)", api.Use{Agg: []int{0}}},
		{"SUM(a.x)", api.Use{Agg: []int{0}}},
		{"MIN(d.x)", api.Use{Agg: []int{4}}},
		{"MAX(n.x)", api.Use{Agg: []int{1}}},
		{"FIRST(b.x)", api.Use{Agg: []int{2}}},
		{"LAST(c.x)", api.Use{Agg: []int{3}}},
		{"c.x + PREV(b.x) = b.x AND n.x = COUNT(a) + SUM(b.x) + nope.x + c.ts", api.Use{Bare: []int{1, 2, 3}, Prev: []int{2}, Agg: []int{0, 2}}},
		{"d.x + c.x + b.x + n.x + a.x + a.x + d.y", api.Use{Bare: []int{0, 1, 2, 3, 4}}},
		{"PREV(d.x) + PREV(a.x) + PREV(d.z) + COUNT(d) + COUNT(a) + COUNT(d)", api.Use{Bare: []int{0, 4}, Prev: []int{0, 4}, Agg: []int{0, 4}}},
		{"z.x + PREV(A.x) = COUNT(z) + SUM(B.x)", api.Use{}},
	} {
		if got := check.Uses(q, treeOf(c.text)); !alike(got, c.want) {
			t.Errorf("Uses(%q) = %+v, want %+v", c.text, got, c.want)
		}
	}
}

// Uses asks neither for a tree nor for a query that is well shaped.
func TestUsesOfAnything(t *testing.T) {
	item := func(v string) api.Item { return api.Item{Var: v} }
	odd := api.Query{Items: []api.Item{item("b"), item("a"), item(""), item("a"), item("1 x"), item("")}, Within: -1}
	at := func(op api.Op, v string) api.Node { return api.Node{Op: op, Var: v, A: 7, B: 7} }
	for i, c := range []struct {
		q    api.Query
		list []api.Node
		want api.Use
	}{
		{odd, nil, api.Use{}},
		{odd, []api.Node{}, api.Use{}},
		{api.Query{}, treeOf("a.x = COUNT(b)"), api.Use{}},
		{odd, []api.Node{at(api.OpAttr, "a")}, api.Use{Bare: []int{1}}},
		{odd, []api.Node{at(api.OpAttr, "")}, api.Use{Bare: []int{2}}},
		{odd, []api.Node{at(api.OpSum, "1 x"), at(api.OpPrev, "a"), at(api.OpAttr, "b"), at(api.OpCount, "c")}, api.Use{Bare: []int{0, 1}, Prev: []int{1}, Agg: []int{4}}},
		{odd, []api.Node{at(api.OpNum, "a"), at(api.OpTrue, "a"), at(api.OpFalse, "a"), at(api.OpNeg, "a"), at(api.OpNot, "a"), at(0, "a"), at(27, "a"), at(-5, "a"), at(math.MaxInt, "a")}, api.Use{}},
		{odd, []api.Node{at(api.OpAdd, "a"), at(api.OpMod, "a"), at(api.OpEq, "a"), at(api.OpGe, "a"), at(api.OpAnd, "a"), at(api.OpOr, "a"), {}}, api.Use{}},
	} {
		if got := check.Uses(c.q, c.list); !alike(got, c.want) {
			t.Errorf("Uses: row %d: %+v, want %+v", i, got, c.want)
		}
	}
}

func TestPlaces(t *testing.T) {
	spots := api.Spots{Items: []int{12, 20, 30}, Where: []int{45, 49, 47}, Within: 60, By: 75, Ret: [][]int{{85}, {}, {95, 99, 97}, nil, {0, -5}}}
	at := func(part api.Part, index, sub int) api.Flaw {
		return api.Flaw{Code: api.ErrUse, Part: part, Index: index, Sub: sub}
	}
	type want map[api.Flaw]int
	for f, place := range (want{
		{}: 0, at(api.PartNone, 0, 0): 0, at(api.PartNone, 1, 1): 0,
		at(api.PartItem, 0, 0): 12, at(api.PartItem, 1, 0): 20, at(api.PartItem, 2, 9): 30, at(api.PartItem, 3, 0): 0, at(api.PartItem, -1, 0): 0,
		at(api.PartWithin, 0, 0): 60, at(api.PartWithin, 7, -7): 60,
		at(api.PartBy, 0, 0): 75, at(api.PartBy, -1, 99): 75,
		at(api.PartWhere, 0, 0): 45, at(api.PartWhere, 1, 5): 49, at(api.PartWhere, 2, 0): 47, at(api.PartWhere, 3, 0): 0, at(api.PartWhere, -1, 0): 0,
		at(api.PartReturn, 0, 0): 85, at(api.PartReturn, 0, 1): 0, at(api.PartReturn, 0, -1): 0, at(api.PartReturn, 1, 0): 0,
		at(api.PartReturn, 2, 0): 95, at(api.PartReturn, 2, 1): 99, at(api.PartReturn, 2, 2): 97, at(api.PartReturn, 2, 3): 0, at(api.PartReturn, 2, -1): 0,
		at(api.PartReturn, 3, 0): 0, at(api.PartReturn, 4, 0): 0, at(api.PartReturn, 4, 1): -5, at(api.PartReturn, 5, 0): 0, at(api.PartReturn, -1, 0): 0, at(api.PartReturn, -1, -1): 0,
		at(6, 0, 0): 0, at(-1, 0, 0): 0, at(math.MinInt, 1, 0): 0, at(math.MaxInt, 1, 0): 0,
		{Part: api.PartItem, Index: 1}: 20, {Code: api.OK, Part: api.PartWhere, Index: 2}: 47,
	}) {
		if got := check.Place(spots, f); got != place {
			t.Errorf("Place of %s is %d, want %d", told(f), got, place)
		}
	}
	for part := api.Part(-2); part < 9; part++ {
		for _, index := range far(1) {
			for _, sub := range far(1) {
				if got := check.Place(api.Spots{}, at(part, index, sub)); got != 0 {
					t.Errorf("Place of %s without spots is %d", told(at(part, index, sub)), got)
				}
			}
		}
	}
}

package check_test

import (
	"fmt"
	"slices"
	"strings"
	"testing"

	"sluice/api"
	"sluice/check"
	"sluice/lex"
	"sluice/parse"
	"sluice/show"
)

// and: the tree with c, d and an OpAnd.
func and(c, d []api.Node) []api.Node {
	out := slices.Clone(c)
	for _, n := range d {
		if n.A >= 0 {
			n.A += len(c)
		}
		if n.B >= 0 {
			n.B += len(c)
		}
		out = append(out, n)
	}
	return append(out, api.Node{Op: api.OpAnd, A: len(c) - 1, B: len(c) + len(d) - 1})
}

// Promise 6.1.
func TestEachConjunctByItself(t *testing.T) {
	pick := scatter(2)
	count := map[string]int{}
	for range 20000 {
		g := grower{pick: pick, odd: []int{1000, 100, 20}[pick(3)]}
		a := g.query()
		g.items = a.Items
		q := a.query()
		wellFormed := func(tree []api.Node) bool {
			q.Where = tree
			return check.Check(grounds, q) == none
		}
		c, d := nodes(g.where(pick(3))), nodes(g.where(pick(3)))
		left, right, both := wellFormed(c), wellFormed(d), wellFormed(and(c, d))
		if both != (left && right) {
			t.Fatalf("6.1: %+v with Where %+v: %v, with %+v: %v, with both: %v", a.query(), c, left, d, right, both)
		}
		count[fmt.Sprint(left, right)]++
	}
	for _, c := range []string{"true true", "true false", "false true", "false false"} {
		if count[c] < 500 {
			t.Errorf("6.1: %s comes up %d times: too seldom", c, count[c])
		}
	}
	q := queryOf(pairs + "WITHIN 5")
	for _, c := range []string{"m.x = 1", "n.x = 1", "r.x = 1", "q.x = 1", "m.x = n.x", "r.x = q.x", "m.x = r.x", "1", "TRUE", "z.x = 1", "s.z = 1", "COUNT(m) = 1", "PREV(s.x) = 1", "TRUE = 1", "m.x = 1 AND n.x = 1", "TRUE AND 1"} {
		for _, d := range []string{"m.x = 2", "n.x = 2", "r.x = 2", "q.x = 2", "m.x = n.x", "7", "FALSE", "r.x = 1 AND (q.x = 1 AND m.x = 1)", "m.x = 1 OR n.x = 1"} {
			q.Where = treeOf(c)
			want := check.Check(schemaOf(plain), q) == none
			q.Where = treeOf(d)
			want = want && check.Check(schemaOf(plain), q) == none
			q.Where = and(treeOf(c), treeOf(d))
			if got := check.Check(schemaOf(plain), q) == none; got != want {
				t.Errorf("6.1: (%s) AND (%s): %v", c, d, got)
			}
		}
	}
}

// variables: all that stand in a query, in its items or said by a node.
func variables(q api.Query) []string {
	var out []string
	for _, i := range q.Items {
		out = append(out, i.Var)
	}
	for _, t := range append([][]api.Node{q.Where}, q.Ret...) {
		for _, n := range t {
			if n.Var != "" {
				out = append(out, n.Var)
			}
		}
	}
	slices.Sort(out)
	return slices.Compact(out)
}

// renamed: the query with other names of its variables.
func renamed(q api.Query, names map[string]string) api.Query {
	other := func(t []api.Node) []api.Node {
		t = slices.Clone(t)
		for i := range t {
			t[i].Var = names[t[i].Var]
		}
		return t
	}
	q.Items, q.Ret = slices.Clone(q.Items), slices.Clone(q.Ret)
	for i := range q.Items {
		q.Items[i].Var = names[q.Items[i].Var]
	}
	q.Where = other(q.Where)
	for i := range q.Ret {
		q.Ret[i] = other(q.Ret[i])
	}
	return q
}

// shuffle lays a list into another order.
func shuffle[T any](list []T, pick func(int) int) {
	for i := range list {
		j := i + pick(len(list)-i)
		list[i], list[j] = list[j], list[i]
	}
}

// Promise 6.2.
func TestNamesAreFree(t *testing.T) {
	pick := scatter(3)
	pool := []string{"A", "B", "C", "D", "Q", "x", "y", "k", "z", "ts", "_", "a", "type", "seqs", "v", "zz", "abcdefghijklmnop", "Abcdefghijklmnop"}
	for i := range 16 {
		pool = append(pool, fmt.Sprint("v", i))
	}
	flawed := 0
	for range 10000 {
		q := grower{pick: pick, odd: []int{1000, 40, 10}[pick(3)]}.query().query()
		want := check.Check(grounds, q)
		if want != none {
			flawed++
		}
		shuffle(pool, pick)
		names := map[string]string{}
		for i, v := range variables(q) {
			names[v] = pool[i]
		}
		if got := check.Check(grounds, renamed(q, names)); got != want {
			t.Fatalf("6.2: %+v: %s, and with the names %v: %s", q, told(want), names, told(got))
		}
		other := api.Schema{Types: slices.Clone(grounds.Types)}
		shuffle(other.Types, pick)
		if got := check.Check(other, q); got != want {
			t.Fatalf("6.2: %+v: %s, and over %+v: %s", q, told(want), other, told(got))
		}
	}
	if flawed < 3000 || flawed > 8000 {
		t.Errorf("6.2: %d queries have a flaw", flawed)
	}
}

// expectParts: promise 6.3 of a tree, and each answer against the terms that the tree was made of.
func expectParts(t *testing.T, q api.Query, x term) {
	t.Helper()
	tree := nodes(x)
	for _, p := range x.all(0) {
		size, sub := check.Size(tree, p.at), check.Sub(tree, p.at)
		sum := 1
		for _, operand := range []int{tree[p.at].A, tree[p.at].B} {
			if operand >= 0 {
				sum += check.Size(tree, operand)
			}
		}
		if size != sum || size != p.size() || !show.Tree(sub) || len(sub) != size || !slices.Equal(sub, nodes(p.term)) {
			t.Fatalf("6.3: place %d of %+v: Size %d, Sub %+v", p.at, tree, size, sub)
		}
	}
	roots := check.Conjuncts(tree)
	var want []int
	for _, p := range x.conjuncts(0) {
		want = append(want, p.at)
	}
	sizes, uses := 0, api.Use{}
	for _, root := range roots {
		sub := check.Sub(tree, root)
		if tree[root].Op == api.OpAnd || len(check.Conjuncts(sub)) != 1 {
			t.Fatalf("6.3: the conjunct %d of %+v", root, tree)
		}
		sizes += check.Size(tree, root)
		u := check.Uses(q, sub)
		uses.Bare, uses.Prev, uses.Agg = append(uses.Bare, u.Bare...), append(uses.Prev, u.Prev...), append(uses.Agg, u.Agg...)
	}
	for _, list := range []*[]int{&uses.Bare, &uses.Prev, &uses.Agg} {
		slices.Sort(*list)
		*list = slices.Compact(*list)
	}
	if !slices.Equal(roots, want) || !slices.IsSorted(roots) || sizes != len(tree)-len(roots)+1 {
		t.Fatalf("6.3: %+v has the conjuncts %v with %d nodes, want %v", tree, roots, sizes, want)
	}
	if got := check.Uses(q, tree); !alike(got, uses) || !alike(got, usesOf(q, x)) {
		t.Fatalf("6.3: %+v mentions %+v, its conjuncts %+v", tree, got, uses)
	}
}

// usesOf: by item, one after the other, whether a term mentions it.
func usesOf(q api.Query, x term) (u api.Use) {
	for n, i := range q.Items {
		var bare, prev, agg bool
		first := slices.IndexFunc(q.Items, func(j api.Item) bool { return j.Var == i.Var }) == n
		for _, p := range x.all(0) {
			if first && p.v == i.Var {
				bare, prev, agg = bare || p.bare(), prev || p.op == api.OpPrev, agg || p.aggregate()
			}
		}
		if bare {
			u.Bare = append(u.Bare, n)
		}
		if prev {
			u.Prev = append(u.Prev, n)
		}
		if agg {
			u.Agg = append(u.Agg, n)
		}
	}
	return u
}

// Promise 6.3.
func TestApartAndTogether(t *testing.T) {
	pick := scatter(4)
	for range 4000 {
		g := grower{pick: pick, odd: []int{1000, 20, 5}[pick(3)]}
		a := g.query()
		g.items = a.Items
		for _, x := range slices.Concat(a.where, a.ret, []term{g.where(pick(12))}) {
			expectParts(t, a.query(), x)
		}
	}
}

// own: the kind of a node's own token.
func own(n api.Node) api.Kind {
	words := map[api.Op]string{
		api.OpNum: "1", api.OpTrue: "TRUE", api.OpFalse: "FALSE", api.OpAttr: "a", api.OpCount: "COUNT", api.OpSum: "SUM", api.OpMin: "MIN", api.OpMax: "MAX", api.OpFirst: "FIRST", api.OpLast: "LAST", api.OpPrev: "PREV",
		api.OpNeg: "-", api.OpNot: "NOT", api.OpAdd: "+", api.OpSub: "-", api.OpMul: "*", api.OpDiv: "/", api.OpMod: "%",
		api.OpEq: "=", api.OpNe: "!=", api.OpLt: "<", api.OpLe: "<=", api.OpGt: ">", api.OpGe: ">=", api.OpAnd: "AND", api.OpOr: "OR",
	}
	tokens, _, _ := lex.Lex(words[n.Op])
	return tokens[0].Kind
}

// stands: is the token one at which the flaw can stand? ahead: the token ahead of it.
func stands(q api.Query, f api.Flaw, ahead, token api.Token) bool {
	switch f.Part {
	case api.PartItem:
		first := q.Items[f.Index]
		alone := token.Kind == api.KindName && token.Text == first.Types[0]
		return (ahead.Kind == api.KindOpen || ahead.Kind == api.KindComma) && (first.Neg && token.Kind == api.KindBang || !first.Neg && (alone || token.Kind == api.KindOpen))
	case api.PartWithin:
		return ahead.Kind == api.KindWithin && token.N == q.Within
	case api.PartBy:
		return ahead.Kind == api.KindBy && token.Text == q.By
	case api.PartWhere:
		return token.Kind == own(q.Where[f.Index])
	case api.PartReturn:
		return token.Kind == own(q.Ret[f.Index][f.Sub])
	}
	return false
}

// Promise 6.4, and that the token is one of what is wrong.
func TestPlacesInTexts(t *testing.T) {
	pick := scatter(5)
	gaps := []string{" ", "\n", " # a ( comment\n", "\t\t"}
	codes := map[api.Errno]int{}
	for range 10000 {
		q := grower{pick: pick, odd: []int{40, 10}[pick(2)]}.query().query()
		words, code := show.Print(q)
		if code != api.OK {
			continue
		}
		text := gaps[pick(4)] + strings.ReplaceAll(words, " ", gaps[pick(4)])
		read, spots, _, _ := parse.Parse(text)
		f := check.Check(grounds, read)
		if f != check.Check(grounds, q) {
			t.Fatalf("%q is read otherwise", text)
		}
		codes[f.Code]++
		place := check.Place(spots, f)
		if f == none {
			if place != 0 {
				t.Fatalf("6.4: the place of no flaw is %d", place)
			}
			continue
		}
		tokens, _, _ := lex.Lex(text)
		at := slices.IndexFunc(tokens, func(x api.Token) bool { return x.At == place })
		if at < 1 || !stands(read, f, tokens[at-1], tokens[at]) {
			t.Fatalf("6.4: the place of %s in %q is %d", told(f), text, place)
		}
	}
	if len(codes) != 15 {
		t.Errorf("6.4: the codes %v come up", codes)
	}
}

// Promise 6.4: of a schema that is none the flaw has no place in the query's text; every other flaw of a text has one, in whatever layout.
func TestPlacesBesideUnsoundSchemas(t *testing.T) {
	for why, s := range unsound() {
		q, spots, _, _ := parse.Parse("  PATTERN SEQ(Q a, Q a) WHERE 1 WITHIN 5")
		if got := check.Place(spots, check.Check(s, q)); got != 0 {
			t.Errorf("6.4: %s: the place is %d", why, got)
		}
	}
	text := "  PATTERN SEQ(Q a, Q a) WHERE 1 WITHIN 5"
	q, spots, _, _ := parse.Parse(text)
	if got := check.Place(spots, check.Check(grounds, q)); got != strings.Index(text, "Q a") {
		t.Errorf("6.4: the place is %d", got)
	}
}

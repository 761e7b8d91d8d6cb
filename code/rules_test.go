package code_test

import (
	"fmt"
	"math"
	"slices"
	"strings"
	"sync"
	"testing"

	"sluice/api"
	"sluice/code"
	"sluice/show"
)

var wildNumbers = []int{math.MinInt, math.MinInt + 1, -2, -1, 0, 1, 2, 3, 5, 1000, math.MaxInt - 1, math.MaxInt}

var wildWords = []string{"", "a", "b", "z", "x", "k", "ts", "A", "seq", "1", "a b", "\xff", "é", "abcdefghijklmnopq"}

// spoil sets one cell of a node to some value.
func spoil(n *api.Node, g grower) {
	number, word := one(g, wildNumbers...), one(g, wildWords...)
	switch g.pick(6) {
	case 0:
		n.Op = api.Op(g.pick(30) - 1)
	case 1:
		n.N = int64(number)
	case 2:
		n.Var = word
	case 3:
		n.Attr = word
	case 4:
		n.A = number
	case 5:
		n.B = number
	}
}

// given: what all calls are asked with.
type given struct {
	s   api.Schema
	q   api.Query
	t   []api.Node
	env api.Env
	p   api.Program
	c   api.Cond
}

// anyGiven: a tree that is well shaped, or was, or is anything, and so on.
func anyGiven(pick func(int) int) given {
	g := grower{pick: pick, odd: []int{1000, 20, 4}[pick(3)]}
	x := given{s: g.schema(), q: g.query(), t: nodes(g.tree()), p: g.program(4, 4)}
	x.env = g.env(len(x.s.Types), len(x.q.Items))
	x.c = api.Cond{Prog: g.program(3, 3), Each: g.number(6) - 2, Prev: g.pick(2) == 0}
	switch pick(8) {
	case 0:
		for range 1 + pick(3) {
			spoil(&x.t[pick(len(x.t))], g)
		}
	case 1:
		x.t = x.t[pick(len(x.t)):]
	case 2:
		x.t = x.t[:pick(len(x.t))]
	case 3:
		for i := range x.p.Code {
			x.p.Code[i] = api.Instr{Code: api.Code(one(g, wildNumbers...)), Item: one(g, wildNumbers...), Col: one(g, wildNumbers...), N: int64(pick(3)), To: one(g, wildNumbers...)}
		}
	case 4:
		x.q.Items = x.q.Items[:pick(len(x.q.Items))]
	}
	return x
}

// answers: what all calls say.
func (x given) answers() string {
	p := code.Compile(x.s, x.q, x.t)
	v, e := code.Run(x.p, x.env)
	w, f := code.Run(p, x.env)
	return fmt.Sprintln(p, code.Eval(x.s, x.q, x.t, x.env), v, int(e), w, int(f), code.Holds(x.p, x.env), code.Every(x.c, x.env.Lists), code.Every(api.Cond{Prog: p, Each: x.c.Each, Prev: x.c.Prev}, x.env.Lists))
}

// Promise P1, and what each call says beside a refusal.
func TestEveryCallEnds(t *testing.T) {
	pick := scatter(5)
	for range 40000 {
		x := anyGiven(pick)
		x.answers()
		p := code.Compile(x.s, x.q, x.t)
		v := code.Eval(x.s, x.q, x.t, x.env)
		if len(p.Code) == 0 && (len(p.Cols) > 0 || v != none) || len(p.Code) > 0 && !show.Tree(x.t) {
			t.Fatalf("7.1, 7.2: %+v: %+v, %v", x.t, p, v)
		}
		if w, e := code.Run(p, x.env); len(p.Code) > 0 && (w != v || e != api.OK) {
			t.Fatalf("7.6: %+v: %v, %d, want %v", x.t, w, e, v)
		}
		if w, e := code.Run(x.p, x.env); e != api.OK && (e != api.ErrCode || w != none) || !w.Known && w.N != 0 {
			t.Fatalf("7.5, P4: %+v: %v, %d", x.p, w, e)
		}
	}
	if got, want := (given{}).answers(), fmt.Sprintln(api.Program{}, none, none, 70, none, 70, false, true, true); got != want {
		t.Errorf("P1: of nothing: %s", got)
	}
}

// many: how long the lists are of which much is asked.
const many = 200000

// longTrees: truths joined to the left and to the right, NOTs, sums to the left and to the right.
func longTrees(op api.Op) (left, right, nots, sums, other []api.Node) {
	leaf, number := api.Node{Op: api.OpTrue, A: -1, B: -1}, api.Node{Op: api.OpNum, N: 1, A: -1, B: -1}
	left, nots, sums = []api.Node{leaf}, []api.Node{leaf}, []api.Node{number}
	for i := range many {
		left = append(left, leaf, api.Node{Op: op, A: 2 * i, B: 2*i + 1})
		nots = append(nots, api.Node{Op: api.OpNot, A: i, B: -1})
		sums = append(sums, number, api.Node{Op: api.OpAdd, A: 2 * i, B: 2*i + 1})
		right, other = append(right, leaf), append(other, number)
	}
	for i := many - 2; i >= 0; i-- {
		right = append(right, api.Node{Op: op, A: i, B: len(right) - 1})
		other = append(other, api.Node{Op: api.OpAdd, A: i, B: len(other) - 1})
	}
	return
}

// Promise P1: long trees are answered as short ones are.
func TestLongTrees(t *testing.T) {
	for _, op := range []api.Op{api.OpAnd, api.OpOr} {
		left, right, nots, sums, other := longTrees(op)
		for i, c := range []struct {
			tree   []api.Node
			length int
			want   int64
		}{{left, 3*many + 1, 1}, {right, 3*many - 2, 1}, {nots, many + 1, 1 - many%2}, {sums, 2*many + 1, many + 1}, {other, 2*many - 1, many}} {
			p := code.Compile(schemaOf(plain), api.Query{}, c.tree)
			if len(p.Code) != c.length {
				t.Errorf("7.2: tree %d has %d instructions", i, len(p.Code))
			}
			if got := code.Eval(schemaOf(plain), api.Query{}, c.tree, api.Env{}); got != is(c.want) {
				t.Errorf("7.1: tree %d: %v", i, got)
			}
			if got, e := code.Run(p, api.Env{}); got != is(c.want) || e != api.OK {
				t.Errorf("7.6: tree %d: %v, %d", i, got, e)
			}
			for at, in := range p.Code {
				if in.Code < api.CodeIfNo {
					continue
				}
				// To the left each jump goes over one truth and its operator, to the right over all that follows but the operators around it.
				want := at + 3
				if i == 1 {
					want = len(p.Code) - at/2
				}
				if in.To != want {
					t.Fatalf("7.2: tree %d: the jump at %d goes to %d", i, at, in.To)
				}
			}
			if p := code.Compile(schemaOf(plain), api.Query{}, c.tree[1:]); len(p.Code) != 0 {
				t.Errorf("7.2: tree %d without its beginning has a program", i)
			}
		}
	}
}

// Promise P1: many items, names, types and events.
func TestLongLists(t *testing.T) {
	var q api.Query
	var tree []api.Node
	for i := range many {
		q.Items = append(q.Items, api.Item{Var: fmt.Sprint("v", i)})
		tree = append(tree, api.Node{Op: api.OpAttr, Var: fmt.Sprint("v", i), Attr: fmt.Sprint("x", i), A: -1, B: -1})
	}
	for i := many - 2; i >= 0; i-- {
		tree = append(tree, api.Node{Op: api.OpAdd, A: i, B: len(tree) - 1})
	}
	s := schemaOf(plain)
	p := code.Compile(s, q, tree)
	if len(p.Code) != 2*many-1 || len(p.Cols) != many || p.Code[many-1] != load(many-1, many-1) {
		t.Errorf("P1: %d items: %d instructions, %d columns", many, len(p.Code), len(p.Cols))
	}
	if got := code.Eval(s, q, tree, api.Env{}); got != none {
		t.Errorf("P1: %d items: %v", many, got)
	}
	s.Types = slices.Repeat([]api.TypeDef{{Attrs: []string{"k"}}}, many)
	if p := code.Compile(s, queryOf(pair), treeOf("a.k = b.k")); len(p.Cols) != 1 || len(p.Cols[0]) != many {
		t.Errorf("P1: %d types: %d columns", many, len(p.Cols))
	}
	lists := [][]api.Event{nil, slices.Repeat([]api.Event{made(0, 1, 2)}, many)}
	for text, want := range map[string]int64{"SUM(b.k)": 2 * many, "COUNT(b)": many, "LAST(b.ts)": 1, "b.k": 2} {
		expectTree(t, s, queryOf(pair), text, api.Env{Lists: lists, Each: 1, At: many - 1}, is(want))
	}
	if !code.Every(api.Cond{Prog: programOf("b.k = 9 OR b.ts = PREV(b.ts)"), Each: 1, Prev: true}, lists) {
		t.Errorf("P1: Every of %d events", many)
	}
}

// roomy: the list with room behind it, in which something stands.
func roomy[T any](list []T, behind T) []T {
	return append(slices.Clone(list), behind, behind)[:len(list)]
}

// whole: a list with its spare room.
func whole[T any](list []T) []T { return list[:cap(list)] }

var (
	oddNode  = api.Node{Op: api.OpOr, N: 9, Var: "odd", Attr: "odd", A: 1, B: 2}
	oddEvent = api.Event{Ts: 77, Id: 77, Type: 1, Attrs: [8]int64{77, 77}}
	oddInstr = api.Instr{Code: api.CodeAdd, Item: 7, Col: 7, N: 7, To: 7}
)

func spareProgram(p api.Program) api.Program {
	p.Code, p.Cols = roomy(p.Code, oddInstr), roomy(p.Cols, []int{77})
	for i := range p.Cols {
		p.Cols[i] = roomy(p.Cols[i], 3)
	}
	return p
}

// spare: the same, in lists of its own with something behind each.
func (x given) spare() given {
	x.s.Types = roomy(x.s.Types, api.TypeDef{Name: "Odd", Attrs: []string{"x", "k"}})
	for i := range x.s.Types {
		x.s.Types[i].Attrs = roomy(x.s.Types[i].Attrs, "k")
	}
	x.q.Items = roomy(x.q.Items, api.Item{Var: "z"})
	x.t = roomy(x.t, oddNode)
	x.env.Lists = roomy(x.env.Lists, []api.Event{oddEvent})
	for i := range x.env.Lists {
		x.env.Lists[i] = roomy(x.env.Lists[i], oddEvent)
	}
	x.p, x.c.Prog = spareProgram(x.p), spareProgram(x.c.Prog)
	return x
}

// everything: what is given, with the spare room of all lists.
func (x given) everything() string {
	var out strings.Builder
	fmt.Fprintf(&out, "%#v %#v %#v %#v %#v", x, whole(x.s.Types), whole(x.q.Items), whole(x.t), whole(x.env.Lists))
	for _, t := range x.s.Types {
		fmt.Fprintf(&out, "%#v", whole(t.Attrs))
	}
	for _, l := range x.env.Lists {
		fmt.Fprintf(&out, "%#v", whole(l))
	}
	for _, p := range []api.Program{x.p, x.c.Prog} {
		fmt.Fprintf(&out, "%#v %#v", whole(p.Code), whole(p.Cols))
		for _, c := range p.Cols {
			fmt.Fprintf(&out, "%#v", whole(c))
		}
	}
	return out.String()
}

func TestWhatIsHandedInIsNotChanged(t *testing.T) {
	pick := scatter(6)
	for range 3000 {
		x := anyGiven(pick)
		spare := x.spare()
		before := spare.everything()
		got := spare.answers()
		if spare.everything() != before {
			t.Fatalf("P2: changed: %+v", x)
		}
		if got != x.answers() {
			t.Fatalf("P3: what stands behind a list counts: %+v", x)
		}
	}
}

// scribble writes over a whole list.
func scribble[T any](list []T, x T) {
	for i := range list {
		list[i] = x
	}
}

// ownMemory: writes another number into each list of a program, its spare room too; does each keep its own?
func ownMemory(p api.Program) bool {
	for i := range p.Cols {
		scribble(whole(p.Cols[i]), -i-100)
	}
	for i, c := range p.Cols {
		if slices.ContainsFunc(whole(c), func(n int) bool { return n != -i-100 }) {
			return false
		}
	}
	scribble(whole(p.Code), oddInstr)
	scribble(whole(p.Cols), nil)
	return true
}

func TestWhatIsHandedOutIsNew(t *testing.T) {
	pick := scatter(7)
	columns := 0
	for range 5000 {
		x := anyGiven(pick).spare()
		p := code.Compile(x.s, x.q, x.t)
		columns = max(columns, len(p.Cols))
		before, said := x.everything(), fmt.Sprint(p)
		if !ownMemory(code.Compile(x.s, x.q, x.t)) {
			t.Fatalf("P2: two lists of one answer share memory: %+v", x)
		}
		if x.everything() != before || fmt.Sprint(p) != said {
			t.Fatalf("P2: an answer shares memory: %+v", x)
		}
		scribble(x.t, oddNode)
		scribble(x.q.Items, api.Item{Var: "odd"})
		for _, d := range x.s.Types {
			scribble(d.Attrs, "odd")
		}
		scribble(x.s.Types, api.TypeDef{})
		if fmt.Sprint(p) != said {
			t.Fatalf("P2: an answer changes with what was handed in: %+v", x)
		}
	}
	if columns < 4 {
		t.Errorf("P2: %d columns at most: too few", columns)
	}
}

func TestSameArgumentsSameAnswers(t *testing.T) {
	pick := scatter(8)
	var all []given
	for range 3000 {
		all = append(all, anyGiven(pick))
	}
	tell := func() string {
		var out strings.Builder
		for _, x := range all {
			out.WriteString(x.answers())
		}
		return out.String()
	}
	want := tell()
	got := make([]string, 8)
	var group sync.WaitGroup
	for i := range got {
		group.Go(func() { got[i] = tell() })
	}
	group.Wait()
	slices.Reverse(all)
	tell()
	slices.Reverse(all)
	for _, g := range append(got, tell()) {
		if g != want {
			t.Error("P3: the same is answered otherwise")
		}
	}
}

package code_test

import (
	"slices"
	"testing"

	"sluice/api"
	"sluice/check"
	"sluice/code"
)

// truthsOf: all terms with so many leaves, joined by AND and OR in every way, over leaves that are true, false and unknown.
func truthsOf(leaves int) []term {
	if leaves == 1 {
		unknown := join(api.OpEq, term{op: api.OpAttr, v: "b", attr: "x"}, term{op: api.OpNum})
		return []term{{op: api.OpTrue}, {op: api.OpFalse}, unknown}
	}
	var out []term
	for left := 1; left < leaves; left++ {
		for _, a := range truthsOf(left) {
			for _, b := range truthsOf(leaves - left) {
				out = append(out, join(api.OpAnd, a, b), join(api.OpOr, a, b))
			}
		}
	}
	return out
}

// Promise 7.6: every way in which ANDs and ORs of up to four truths can jump.
func TestEveryWayToJump(t *testing.T) {
	s, q := schemaOf(plain), queryOf(pair)
	env := api.Env{Lists: told(), Each: 1}
	for leaves := range 4 {
		for _, x := range truthsOf(leaves + 1) {
			for _, y := range []term{x, join(api.OpNot, x), join(api.OpAnd, join(api.OpNot, x), x)} {
				tree, want := nodes(y), y.value(s, q, env)
				p := code.Compile(s, q, tree)
				if got := code.Eval(s, q, tree, env); got != want {
					t.Fatalf("7.1: %+v: %v, want %v", tree, got, want)
				}
				if got, e := code.Run(p, env); got != want || e != api.OK {
					t.Fatalf("7.6: %+v: %v, %d, want %v", p.Code, got, e, want)
				}
			}
		}
	}
}

// Promise 7.6: each environment of a few lists of a few events, for trees that mention items in every way.
func TestEveryEnvironment(t *testing.T) {
	s, q := schemaOf(plain), queryOf(pair)
	var trees [][]api.Node
	for _, r := range readers {
		for _, o := range readers {
			trees = append(trees, treeOf(r.text("b", "k")+" < "+o.text("a", "x")), treeOf(r.text("b", "ts")+" = 5 OR "+o.text("b", "x")+" = 1 AND "+r.text("a", "k")+" > 0"))
		}
	}
	a, b, odd := made(0, 5, 1, 2), made(1, 6, 0), made(-1, 5, 1, 1)
	lists := [][]api.Event{nil, {a}, {b}, {odd}, {a, b}, {b, a}, {b, odd}, {b, b, a}}
	for _, tree := range trees {
		p := code.Compile(s, q, tree)
		for _, l := range lists {
			for _, m := range lists {
				for _, each := range []int{-2, -1, 0, 1, 2} {
					for at := -1; at < 4; at++ {
						env := api.Env{Lists: [][]api.Event{l, m}, Each: each, At: at}
						want := code.Eval(s, q, tree, env)
						if got, e := code.Run(p, env); got != want || e != api.OK {
							t.Fatalf("7.6: %+v, %+v: %v, %d, want %v", tree, env, got, e, want)
						}
					}
				}
			}
		}
	}
}

// Each conjunct and each result of a query that is well formed is runnable.
func TestWellFormedIsRunnable(t *testing.T) {
	pick := scatter(4)
	s := schemaOf("type T0(x, y, k)")
	wellFormed := 0
	for range 40000 {
		g := grower{pick: pick, odd: 1000}
		q := g.query()
		for i := range q.Items {
			if q.Items[i].Neg {
				q.Items[i].Hi = 1
			}
		}
		q.Where, q.Ret = nodes(g.expr(true, g.pick(7))), [][]api.Node{nodes(g.expr(false, g.pick(3)))}
		if check.Check(s, q) != (api.Flaw{}) {
			continue
		}
		wellFormed++
		trees := slices.Clone(q.Ret)
		for _, root := range check.Conjuncts(q.Where) {
			trees = append(trees, check.Sub(q.Where, root))
		}
		for _, tree := range append(trees, q.Where) {
			if p := code.Compile(s, q, tree); len(p.Code) == 0 {
				t.Fatalf("7.2: %+v of %+v has no program", tree, q)
			}
		}
	}
	if wellFormed < 1000 {
		t.Errorf("%d queries are well formed: too few", wellFormed)
	}
}

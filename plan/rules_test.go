package plan_test

import (
	"fmt"
	"reflect"
	"runtime"
	"slices"
	"strings"
	"sync"
	"testing"

	"sluice/api"
	"sluice/check"
	"sluice/code"
	"sluice/plan"
)

var wildWords = []string{"", "a", "v0", "v1", "z", "x", "k", "ts", "T0", "T1", "seq", "1", "a b", "\xff", "é", "abcdefghijklmnopq"}

// spoil sets one cell somewhere within a value to something else, or makes one of its lists longer or shorter.
func spoil(g grower, v reflect.Value) {
	switch v.Kind() {
	case reflect.Struct:
		spoil(g, v.Field(g.pick(v.NumField())))
	case reflect.Array:
		spoil(g, v.Index(g.pick(v.Len())))
	case reflect.Slice:
		if v.Len() > 0 && g.pick(4) > 0 {
			spoil(g, v.Index(g.pick(v.Len())))
		} else if v.Len() > 0 && g.pick(2) == 0 {
			v.Set(v.Slice3(0, g.pick(v.Len()), v.Cap()))
		} else {
			v.Set(reflect.Append(v.Slice3(0, v.Len(), v.Len()), reflect.Zero(v.Type().Elem())))
		}
	case reflect.String:
		v.SetString(one(g, wildWords...))
	case reflect.Bool:
		v.SetBool(!v.Bool())
	case reflect.Uint64:
		v.SetUint(uint64(one(g, wildNumbers...)))
	default:
		v.SetInt(int64(one(g, wildNumbers...)))
	}
}

// asked: what all calls are asked with.
type asked struct {
	S      api.Schema
	Q      api.Query
	P      api.Plan
	Number int
	E      api.Event
	B      api.Binding
}

// anyAsked: a query that has a plan, most often, and a plan, which is one, or was, or is nothing.
func anyAsked(pick func(int) int) asked {
	g := grower{pick: pick, odd: []int{1000, 30}[pick(2)]}
	s, q := g.given()
	_, _, p := wellFormed(grower{pick: pick, odd: 1000})
	x := asked{S: s, Q: q, P: p, Number: pick(4), E: g.event([]int{0, 1, 2, 3}), B: g.binding(p)}
	switch pick(4) {
	case 0:
		x = roomy(x)
		for range 1 + pick(4) {
			spoil(g, reflect.ValueOf(&x).Elem())
		}
	case 1:
		x.Number, x.E.Type = one(g, wildNumbers...), one(g, wildNumbers...)
	case 2:
		for range pick(3) {
			x.B = append(x.B[:pick(len(x.B)+1)], []api.Event{x.E, x.E})
		}
	}
	if pick(20) == 0 {
		x.P = api.Plan{}
	}
	return x
}

// answers: what all calls say.
func (x asked) answers() string {
	p, f := plan.Build(x.S, x.Q)
	return fmt.Sprintf("%+v %+v %v %v %v %v %v", p, f, plan.Takes(x.P, x.Number, x.E), plan.Guards(x.P, x.Number, x.E), plan.InStream(x.P, x.E), plan.Key(x.P, x.E), plan.Spread(x.P, x.B))
}

// Promise P1.
func TestEveryCallEnds(t *testing.T) {
	pick := scatter(6)
	flaws := map[api.Errno]int{}
	for range 15000 {
		x := anyAsked(pick)
		x.answers()
		p, f := plan.Build(x.S, x.Q)
		if f != check.Check(x.S, x.Q) || f != (api.Flaw{}) && told(p) != told(api.Plan{}) {
			t.Fatalf("8.1: %+v: %+v, %+v", x.Q, p, f)
		}
		flaws[f.Code]++
	}
	if flaws[api.OK] < 5000 || len(flaws) < 12 {
		t.Errorf("P1: the codes %v come up", flaws)
	}
	zero := asked{}
	if got, want := zero.answers(), fmt.Sprintf("%+v %+v false false false 0 []", api.Plan{}, api.Flaw{Code: api.ErrSchemaTypes}); got != want {
		t.Errorf("P1: of nothing: %s", got)
	}
}

// Promise P1: plans of one's own making, each of which says one thing that no plan says.
func TestPlansOfOnesOwn(t *testing.T) {
	yes := api.Program{Code: []api.Instr{{Code: api.CodePush, N: 1}}}
	load := api.Program{Code: []api.Instr{{Code: api.CodeLoad}}, Cols: [][]int{{0}}}
	odds := []api.Program{{}, yes, load, {Code: []api.Instr{{Code: api.CodeAdd}}}, {Code: []api.Instr{{Code: api.CodeLoad, Item: -1, Col: 9}}}, {Code: []api.Instr{{Code: 99}}}}
	binding := api.Binding{{ev(0, 1, 2)}, {ev(0, 1, 2), ev(5, 1, 2)}, nil}
	for _, n := range wildNumbers {
		for _, own := range odds {
			list := []api.Program{own, yes}
			p := api.Plan{
				Comps: []api.Comp{{Item: n, Types: []int{0, n}, Own: list, Lo: n, Hi: n}, {Item: n, Own: list}, {}},
				Negs:  []api.Neg{{Item: n, Types: []int{n, 0}, After: n, Before: n, Own: list, Rest: list}, {}},
				Used:  []bool{true}, Cols: []int{n, api.ColTs, api.ColNone},
			}
			for items := range 13 {
				p.Query.Items = make([]api.Item, items)
				spread := plan.Spread(p, binding)
				if len(spread) != items {
					t.Errorf("P1: %d lists for %d items", len(spread), items)
				}
			}
			for _, number := range wildNumbers {
				for _, e := range []api.Event{ev(0, 1, 2), ev(n, 1, 2), ev(number, 3)} {
					takes, guards := plan.Takes(p, number, e), plan.Guards(p, number, e)
					if takes && (number < 0 || number > 1) || guards && number != 0 {
						t.Errorf("P1: number %d: %v, %v", number, takes, guards)
					}
					plan.InStream(p, e)
					plan.Key(p, e)
				}
			}
		}
	}
}

// many: how long the lists are of which much is asked.
const many = 100000

// longTrees: so many comparisons joined to the left and to the right, one comparison below as many NOTs, and a sum.
func longTrees() (left, right, nots, sum []api.Node) {
	leaf := treeOf("v.x")[0]
	left, nots, sum = treeOf("v.x = v.x"), treeOf("v.x = v.x"), treeOf("v.x")
	for i := range many {
		left = append(left, leaf, leaf, api.Node{Op: api.OpEq, A: 4*i + 3, B: 4*i + 4}, api.Node{Op: api.OpAnd, A: 4*i + 2, B: 4*i + 5})
		nots = append(nots, api.Node{Op: api.OpNot, A: i + 2, B: -1})
		sum = append(sum, leaf, api.Node{Op: api.OpAdd, A: 2 * i, B: 2*i + 1})
		right = append(right, leaf, leaf, api.Node{Op: api.OpEq, A: 3 * i, B: 3*i + 1})
	}
	for i := many - 2; i >= 0; i-- {
		right = append(right, api.Node{Op: api.OpAnd, A: 3*i + 2, B: len(right) - 1})
	}
	return
}

// Promise P1: long queries are answered as short ones are.
func TestLongQueries(t *testing.T) {
	left, right, nots, sum := longTrees()
	s := schemaOf(plain)
	for i, c := range []struct {
		where       []api.Node
		own, instrs int
		takes       bool
	}{{left, many + 1, 3, true}, {right, many, 3, true}, {nots, 1, 3 + many, many%2 == 0}} {
		q := queryOf("SEQ(!B n, A v)")
		q.Where, q.Ret = c.where, [][]api.Node{sum}
		p := planOf(s, q)
		own := p.Comps[0].Own
		if len(own) != c.own || len(own[0].Code) != c.instrs || told(own[0]) != told(own[len(own)-1]) || len(p.Ret) != 1 || len(p.Ret[0].Code) != 2*many+1 {
			t.Errorf("P1: query %d: %d own filters, %d results", i, len(own), len(p.Ret))
		}
		if plan.Takes(p, 0, ev(0, 1, 2)) != c.takes {
			t.Errorf("P1: query %d: not %v", i, c.takes)
		}
		q = queryOf("SEQ(A a, !B n, B+ v)")
		q.Where = c.where
		if p := planOf(s, q); len(p.Comps[1].Own) != c.own || len(p.Comps[0].Own)+len(p.Negs[0].Own) > 0 {
			t.Errorf("P1: query %d, behind others: %d own filters", i, len(p.Comps[1].Own))
		}
	}
	long := slices.Repeat([]api.Event{ev(0, 1, 2), ev(1, 3)}, many)
	if got := plan.Spread(made(plain, "SEQ(!B n, A+ a)"), slices.Repeat(api.Binding{long}, 3)); len(got) != 2 || len(got[0]) != 0 || !slices.Equal(got[1], long) {
		t.Errorf("8.8: %d lists", len(got))
	}
	if got := plan.Spread(made(plain, "SEQ(!B n, A+ a)"), make(api.Binding, many)); len(got) != 2 {
		t.Errorf("8.8: %d lists", len(got))
	}
}

// Promises P2 and P3: what is handed in is not changed, and what stands in its spare room does not count.
func TestWhatIsHandedInIsNotChanged(t *testing.T) {
	pick := scatter(7)
	for range 2000 {
		x := anyAsked(pick)
		spare := roomy(x)
		before := everything(spare)
		got := spare.answers()
		if everything(spare) != before {
			t.Fatalf("P2: changed: %+v", x)
		}
		if got != x.answers() {
			t.Fatalf("P3: what stands behind a list counts: %+v", x)
		}
	}
}

// calls: what a plan's calls say, of a few events and of a binding.
func calls(p api.Plan, g grower, b api.Binding) string {
	var out []any
	for typ := range 6 {
		for number := range 5 {
			e := g.event([]int{typ})
			out = append(out, plan.Takes(p, number, e), plan.Guards(p, number, e), plan.InStream(p, e), plan.Key(p, e))
		}
	}
	return fmt.Sprint(append(out, plan.Spread(p, b))...)
}

// Promise 8.3, and P2 of Build: two plans, and what they were made from, share nothing, nor do the lists of one plan.
func TestPlansShareNothing(t *testing.T) {
	pick := scatter(8)
	for range 2000 {
		s, q, _ := wellFormed(grower{pick: pick, odd: 1000})
		s, q = roomy(s), roomy(q)
		p, other := planOf(s, q), planOf(s, q)
		if share(s, q, p, other) {
			t.Fatalf("8.3, P2: lists share memory: %+v", q)
		}
		g, seed := grower{odd: 1000}, uint64(pick(1000))
		say := func() string {
			g.pick = scatter(seed)
			return calls(p, g, g.binding(other))
		}
		saidPlan, saidCalls, saidQuery := everything(p), say(), everything(q)+everything(s)
		scribble(planOf(s, q))
		if everything(p) != saidPlan || everything(q)+everything(s) != saidQuery {
			t.Fatalf("P2: who writes into a plan changes something else: %+v", q)
		}
		scribble(s)
		scribble(q)
		if everything(p) != saidPlan || say() != saidCalls {
			t.Fatalf("8.3: who writes into what was handed in changes the plan: %+v", q)
		}
		runtime.KeepAlive([]any{s, q, p, other})
	}
}

// Promise 8.3: lists that are one list in the query are several in the plan.
func TestSharedListsComeApart(t *testing.T) {
	s, q := schemaOf(plain), queryOf("SEQ(A a, !A n, A b) WITHIN 5 RETURN a.x, a.x")
	s.Types[1].Attrs = s.Types[0].Attrs
	q.Items[1].Types, q.Items[2].Types, q.Ret[1] = q.Items[0].Types, q.Items[0].Types, q.Ret[0]
	p := planOf(s, q)
	if share(p) {
		t.Errorf("P2: two lists of one plan share memory: %+v", p)
	}
	said := everything(p)
	scribble(s)
	scribble(q)
	if everything(p) != said {
		t.Errorf("8.3: %+v", p)
	}
	runtime.KeepAlive(p)
}

// Promises 8.8 and P2 of Spread.
func TestSpreadSharesNothing(t *testing.T) {
	pick := scatter(9)
	for range 3000 {
		g := grower{pick: pick, odd: 1000}
		_, _, p := wellFormed(g)
		b := roomy(g.binding(p))
		if len(b) > 1 {
			b[1] = b[0]
		}
		got, other := plan.Spread(p, b), plan.Spread(p, b)
		if share(got, other) || len(b) > 0 && (share(got, b[0]) || share(got, b[len(b)-1]) || share(got, p)) {
			t.Fatalf("8.8, P2: lists share memory: %+v, %+v", p.Query, b)
		}
		said, plain, bound := everything(got), everything(p), everything(b)
		scribble(other)
		if everything(p) != plain || everything(b) != bound || everything(got) != said {
			t.Fatalf("P2: who writes into an answer changes something else: %+v, %+v", p.Query, b)
		}
		scribble(b)
		if everything(got) != said {
			t.Fatalf("8.8: who writes into the binding changes the answer: %+v", p.Query)
		}
		runtime.KeepAlive([]any{got, other, b, p})
	}
}

// Promise P3.
func TestSameArgumentsSameAnswers(t *testing.T) {
	pick := scatter(10)
	var all []asked
	for range 2000 {
		all = append(all, anyAsked(pick))
	}
	tell := func() string {
		var out strings.Builder
		for _, x := range all {
			out.WriteString(x.answers())
		}
		return out.String()
	}
	want := tell()
	got := make([]string, 8)
	var group sync.WaitGroup
	for i := range got {
		group.Go(func() { got[i] = tell() })
	}
	group.Wait()
	slices.Reverse(all)
	tell()
	slices.Reverse(all)
	for _, g := range append(got, tell()) {
		if g != want {
			t.Error("P3: the same is answered otherwise")
		}
	}
}

// Promise P3: the own filters of a plan are asked of the event alone, whatever was asked ahead of it.
func TestAskedInAnyOrder(t *testing.T) {
	p := made(plain, "SEQ(A a, B b) WHERE a.x = 1 AND b.x = 2 AND b.x = a.x + 1")
	for i, c := range []asks{{0, ev(0, 1, 1), true}, {1, ev(1, 1, 2), true}, {0, ev(0, 1, 2), false}, {1, ev(1, 1, 1), false}, {0, ev(0, 1, 1), true}, {1, ev(1, 1, 2), true}} {
		if got := plan.Takes(p, c.number, c.e); got != c.want {
			t.Errorf("P3: row %d: %v", i, got)
		}
	}
	if code.Every(p.Comps[0].Conds[0], plan.Spread(p, api.Binding{{ev(0, 1, 2)}, {ev(1, 1, 2)}})) {
		t.Error("8.9: 2 is not 2 + 1")
	}
}

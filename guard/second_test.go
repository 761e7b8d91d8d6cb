package guard_test

import (
	"fmt"
	"math/big"
	"slices"
	"testing"

	"sluice/api"
	"sluice/check"
	"sluice/code"
	"sluice/guard"
	"sluice/num"
)

// laid: an event and the negations that look at it.
type laid struct {
	event api.Event
	negs  []int
}

// second: other guards: all events that were ever laid into a buffer, and all bounds that were ever given. What is left of them is looked up each time, and what a negation asks is read from the query's trees.
type second struct {
	plan   api.Plan
	laid   []laid
	bounds []int64
	own    [][][]api.Node // by negation the conjuncts that mention its variable alone
	rest   [][][]api.Node // and those that mention others too
}

func newSecond(p api.Plan) *second {
	s := &second{plan: p}
	for _, n := range p.Negs {
		own, rest := conjunctsOf(p.Query, p.Query.Items[n.Item].Var)
		s.own, s.rest = append(s.own, own), append(s.rest, rest)
	}
	return s
}

// conjunctsOf: the query's conjuncts that mention a variable: those that mention no other, and the others.
func conjunctsOf(q api.Query, variable string) (alone, others [][]api.Node) {
	for _, root := range check.Conjuncts(q.Where) {
		tree := check.Sub(q.Where, root)
		mentions := slices.ContainsFunc(tree, func(n api.Node) bool { return n.Var == variable })
		if !mentions {
			continue
		}
		if slices.ContainsFunc(tree, func(n api.Node) bool { return n.Var != "" && n.Var != variable }) {
			others = append(others, tree)
		} else {
			alone = append(alone, tree)
		}
	}
	return alone, others
}

// isPast: is a time at or below one of the bounds?
func (s *second) isPast(ts int64) bool {
	return slices.ContainsFunc(s.bounds, func(bound int64) bool { return ts <= bound })
}

// left: what is not dropped.
func (s *second) left() []laid {
	var out []laid
	for _, l := range s.laid {
		if !s.isPast(l.event.Ts) {
			out = append(out, l)
		}
	}
	return out
}

func (s *second) kept(neg int) []api.Event {
	var out []api.Event
	for _, l := range s.left() {
		if slices.Contains(l.negs, neg) {
			out = append(out, l.event)
		}
	}
	return out
}

// all: the events of all buffers, each once.
func (s *second) all() []api.Event {
	var out []api.Event
	for _, l := range s.left() {
		out = append(out, l.event)
	}
	return out
}

// isBehind: by the timestamp, then by the id.
func isBehind(e, f api.Event) bool { return e.Ts > f.Ts || e.Ts == f.Ts && e.Id > f.Id }

// isOf: is the event of one of the item's types?
func isOf(p api.Plan, item int, e api.Event) bool {
	return e.Type >= 0 && e.Type < len(p.Schema.Types) && slices.Contains(p.Query.Items[item].Types, p.Schema.Types[e.Type].Name)
}

// areTrue: are all trees true with the event in the item's place?
func areTrue(p api.Plan, trees [][]api.Node, lists [][]api.Event, item int, e api.Event) bool {
	lists = slices.Clone(lists)
	lists[item] = []api.Event{e}
	env := api.Env{Lists: lists, Each: -1}
	return !slices.ContainsFunc(trees, func(tree []api.Node) bool { return !num.True(code.Eval(p.Schema, p.Query, tree, env)) })
}

// looksAt: does the negation look at the event?
func (s *second) looksAt(neg int, e api.Event) bool {
	item := s.plan.Negs[neg].Item
	return isOf(s.plan, item, e) && areTrue(s.plan, s.own[neg], make([][]api.Event, len(s.plan.Query.Items)), item, e)
}

func (s *second) add(e api.Event) int {
	if s.isPast(e.Ts) || slices.ContainsFunc(s.all(), func(f api.Event) bool { return !isBehind(e, f) }) {
		return 0
	}
	l := laid{event: e}
	for neg := range s.plan.Negs {
		if s.looksAt(neg, e) {
			l.negs = append(l.negs, neg)
		}
	}
	if len(l.negs) > 0 {
		s.laid = append(s.laid, l)
	}
	return len(l.negs)
}

func (s *second) prune(bound int64) int {
	dropped := 0
	for _, l := range s.left() {
		if l.event.Ts <= bound {
			dropped += len(l.negs)
		}
	}
	s.bounds = append(s.bounds, bound)
	return dropped
}

// spread: the binding's events by item.
func spread(p api.Plan, b api.Binding) [][]api.Event {
	out := make([][]api.Event, len(p.Query.Items))
	comp := 0
	for i, item := range p.Query.Items {
		if !item.Neg {
			out[i] = b[comp]
			comp++
		}
	}
	return out
}

// fits: as many lists as components, none of them empty.
func fits(p api.Plan, b api.Binding) bool {
	return len(b) == len(p.Comps) && !slices.ContainsFunc(b, func(l []api.Event) bool { return len(l) == 0 })
}

// atMost: is a time at most another one and so much more?
func atMost(ts, other, more int64) bool {
	sum := new(big.Int).Add(big.NewInt(other), big.NewInt(more))
	return big.NewInt(ts).Cmp(sum) <= 0
}

// inRange: the words of DOC.md's rule 7, by the items: the components ahead of a negated item are those of the items ahead of it.
func inRange(p api.Plan, neg int, b api.Binding, e api.Event) bool {
	if neg < 0 || neg >= len(p.Negs) || !fits(p, b) {
		return false
	}
	ahead := 0
	for _, item := range p.Query.Items[:p.Negs[neg].Item] {
		if !item.Neg {
			ahead++
		}
	}
	flat := slices.Concat(b...)
	first, last := flat[0], flat[len(flat)-1]
	if ahead == 0 && !atMost(last.Ts, e.Ts, p.Query.Within) {
		return false
	}
	if ahead > 0 && !isBehind(e, b[ahead-1][len(b[ahead-1])-1]) {
		return false
	}
	if ahead == len(b) {
		return atMost(e.Ts, first.Ts, p.Query.Within)
	}
	return isBehind(b[ahead][0], e)
}

// kills: does one of the events kill the binding, if the negation looks at them?
func (s *second) kills(neg int, b api.Binding, l []api.Event) bool {
	return slices.ContainsFunc(l, func(e api.Event) bool {
		return inRange(s.plan, neg, b, e) && areTrue(s.plan, s.rest[neg], spread(s.plan, b), s.plan.Negs[neg].Item, e)
	})
}

func (s *second) blocked(neg int, b api.Binding) bool { return s.kills(neg, b, s.kept(neg)) }

// pair: guards beside the second ones. Each step is told to both, and behind it both are asked all that changes nothing.
type pair struct {
	t      *testing.T
	where  string
	guards *guard.Guards
	want   *second
	pick   func(int) int // of what is asked behind a step
	told   map[string]int
}

// open: new guards beside new second ones.
func open(t *testing.T, where string, p api.Plan) *pair {
	t.Helper()
	g := guard.New(p)
	if g == nil {
		t.Fatalf("12.1: %s: New has answered nothing", where)
	}
	out := &pair{t, where, g, newSecond(p), scatter(1), map[string]int{}}
	out.asked("New")
	return out
}

// tells: do the buffers hold just these events, twice in a row?
func tells(t *testing.T, where string, g *guard.Guards, negs int, kept func(neg int) []api.Event) {
	t.Helper()
	for range 2 {
		for neg := range negs {
			if got, want := g.Kept(neg), kept(neg); !slices.Equal(got, want) {
				t.Fatalf("12.4: %s: Kept(%d): %s, want %s", where, neg, shown(got), shown(want))
			}
		}
		for _, neg := range []int{-1, negs} {
			if got := g.Kept(neg); len(got) != 0 {
				t.Fatalf("12.4: %s: Kept(%d): %s", where, neg, shown(got))
			}
		}
	}
}

// asked: what both hold, and what they say of a few bindings.
func (p *pair) asked(call string) {
	p.t.Helper()
	where := p.where + ": " + call
	tells(p.t, where, p.guards, len(p.want.plan.Negs), p.want.kept)
	for range 4 {
		p.ask(where, drawBinding(p.pick, p.want.plan, p.now(), p.want.all()))
	}
}

// ask: what both say of a binding, twice in a row.
func (p *pair) ask(where string, b api.Binding) {
	p.t.Helper()
	for range 2 {
		for neg := -1; neg <= len(p.want.plan.Negs); neg++ {
			got, want := p.guards.Blocked(neg, b), p.want.blocked(neg, b)
			if got != want {
				p.t.Fatalf("12.6: %s: Blocked(%d, %+v): %v, want %v", where, neg, b, got, want)
			}
			p.told[fmt.Sprint("blocked ", got)]++
			e := drawEvent(p.pick, p.now())
			for _, e := range append(p.want.kept(neg), e) {
				got, want := guard.InRange(p.want.plan, neg, b, e), inRange(p.want.plan, neg, b, e)
				if got != want {
					p.t.Fatalf("12.5: %s: InRange(%d, %+v, %d/%d): %v, want %v", where, neg, b, e.Ts, e.Id, got, want)
				}
				p.told[fmt.Sprint("in range ", got)]++
			}
		}
	}
}

func (p *pair) add(e api.Event) int {
	p.t.Helper()
	got, want := p.guards.Add(e), p.want.add(e)
	if got != want {
		p.t.Fatalf("12.2: %s: Add(%d/%d of type %d): %d, want %d", p.where, e.Ts, e.Id, e.Type, got, want)
	}
	p.asked(fmt.Sprintf("Add(%d/%d)", e.Ts, e.Id))
	p.told[fmt.Sprint("added ", min(got, 2))]++
	return got
}

func (p *pair) prune(bound int64) int {
	p.t.Helper()
	got, want := p.guards.Prune(bound), p.want.prune(bound)
	if got != want {
		p.t.Fatalf("12.3: %s: Prune(%d): %d, want %d", p.where, bound, got, want)
	}
	p.asked(fmt.Sprintf("Prune(%d)", bound))
	p.told["dropped"] += got
	return got
}

// now: the last event's timestamp, or the greatest bound, if one of them is near 0.
func (p *pair) now() int64 {
	out := int64(-6)
	for _, ts := range p.want.bounds {
		if ts < 1000 {
			out = max(out, ts)
		}
	}
	for _, e := range p.want.all() {
		if e.Ts < 1000 {
			out = max(out, e.Ts)
		}
	}
	return out
}

// draw: a scattered step. Most of them add an event.
func (p *pair) draw(pick func(int) int) {
	p.t.Helper()
	switch pick(14) {
	case 0:
		p.prune(p.now() - int64(pick(16)))
	case 1:
		p.prune(p.now() + int64(pick(12)-10))
	default:
		p.add(drawEvent(pick, p.now()))
	}
}

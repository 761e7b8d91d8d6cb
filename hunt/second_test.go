package hunt_test

import (
	"math/big"
	"slices"

	"sluice/api"
	"sluice/check"
	"sluice/code"
	"sluice/num"
)

// conjunct: one of WHERE's, and the items whose variables it mentions: barely, by PREV, by an aggregate.
type conjunct struct {
	tree            []api.Node
	bare, prev, agg []int
}

// second: another answer to all questions: from the words of the chapter and of DOC.md's rules, and the query's trees. Nothing of the plan is asked but its schema and its query.
type second struct {
	schema    api.Schema
	query     api.Query
	conjuncts []conjunct
	comps     []int // by component its item's number
	negs      []int // by negated item its number
}

func secondOf(p api.Plan) *second {
	s := &second{schema: p.Schema, query: p.Query}
	for i, item := range p.Query.Items {
		if item.Neg {
			s.negs = append(s.negs, i)
		} else {
			s.comps = append(s.comps, i)
		}
	}
	for _, root := range check.Conjuncts(p.Query.Where) {
		c := conjunct{tree: check.Sub(p.Query.Where, root)}
		for _, n := range c.tree {
			item := slices.IndexFunc(p.Query.Items, func(i api.Item) bool { return i.Var == n.Var })
			switch {
			case item < 0:
			case n.Op == api.OpAttr:
				c.bare = append(c.bare, item)
			case n.Op == api.OpPrev:
				c.bare, c.prev = append(c.bare, item), append(c.prev, item)
			default:
				c.agg = append(c.agg, item)
			}
		}
		s.conjuncts = append(s.conjuncts, c)
	}
	return s
}

// isBehind: by the timestamp, then by the id.
func isBehind(e, f api.Event) bool { return e.Ts > f.Ts || e.Ts == f.Ts && e.Id > f.Id }

// atMost: is a time at most another one and so much more?
func atMost(ts, other, more int64) bool {
	sum := new(big.Int).Add(big.NewInt(other), big.NewInt(more))
	return big.NewInt(ts).Cmp(sum) <= 0
}

// isOf: is the event of one of the item's types?
func (s *second) isOf(item int, e api.Event) bool {
	return e.Type >= 0 && e.Type < len(s.schema.Types) && slices.Contains(s.query.Items[item].Types, s.schema.Types[e.Type].Name)
}

func (s *second) isTrue(tree []api.Node, env api.Env) bool {
	return num.True(code.Eval(s.schema, s.query, tree, env))
}

// alone: a list for each item, empty but for one item, which has the event.
func (s *second) alone(item int, e api.Event) [][]api.Event {
	out := make([][]api.Event, len(s.query.Items))
	out[item] = []api.Event{e}
	return out
}

// isOwn: does the conjunct mention no other variable than the item's, barely?
func (c conjunct) isOwn(item int) bool {
	return len(c.bare) > 0 && len(c.prev)+len(c.agg) == 0 && !slices.ContainsFunc(c.bare, func(i int) bool { return i != item })
}

// takes: is the event of one of the item's types, and are all its own filters true?
func (s *second) takes(item int, e api.Event) bool {
	return s.isOf(item, e) && !slices.ContainsFunc(s.conjuncts, func(c conjunct) bool {
		return c.isOwn(item) && !s.isTrue(c.tree, api.Env{Lists: s.alone(item, e), Each: -1})
	})
}

// spread: the binding's events by item.
func (s *second) spread(b api.Binding) [][]api.Event {
	out := make([][]api.Event, len(s.query.Items))
	for comp, item := range s.comps {
		out[item] = b[comp]
	}
	return out
}

// meets: rule 5 of one conjunct that mentions no negated variable.
func (s *second) meets(c conjunct, lists [][]api.Event) bool {
	each := slices.IndexFunc(c.bare, func(item int) bool { return s.query.Items[item].Hi > 1 })
	if each < 0 {
		return s.isTrue(c.tree, api.Env{Lists: lists, Each: -1})
	}
	item := c.bare[each]
	for at := range lists[item] {
		if (at > 0 || len(c.prev) == 0) && !s.isTrue(c.tree, api.Env{Lists: lists, Each: item, At: at}) {
			return false
		}
	}
	return true
}

// isNegated: does the conjunct mention a negated variable?
func (s *second) isNegated(c conjunct) bool {
	return slices.ContainsFunc(c.bare, func(item int) bool { return s.query.Items[item].Neg })
}

// flawOf: the first of the six clauses that the binding does not meet over the log; 0: it stands.
func (s *second) flawOf(log []api.Event, b api.Binding) int {
	switch {
	case !s.hasLists(log, b):
		return 1
	case !isRising(slices.Concat(b...)):
		return 2
	case !atMost(last(b).Ts, first(b).Ts, s.query.Within):
		return 3
	case !s.meetsAll(b):
		return 4
	case !s.keepsMode(log, b):
		return 5
	case s.isKilled(log, b):
		return 6
	}
	return 0
}

func isRising(l []api.Event) bool {
	for i := 1; i < len(l); i++ {
		if !isBehind(l[i], l[i-1]) {
			return false
		}
	}
	return true
}

// hasLists: clause 1.
func (s *second) hasLists(log []api.Event, b api.Binding) bool {
	if len(b) != len(s.comps) {
		return false
	}
	for comp, list := range b {
		item := s.query.Items[s.comps[comp]]
		if len(list) < item.Lo || len(list) > item.Hi {
			return false
		}
		for _, e := range list {
			if !s.isOf(s.comps[comp], e) || !slices.Contains(log, e) {
				return false
			}
		}
	}
	return true
}

// meetsAll: clause 4, which is rule 5.
func (s *second) meetsAll(b api.Binding) bool {
	lists := s.spread(b)
	return !slices.ContainsFunc(s.conjuncts, func(c conjunct) bool { return !s.isNegated(c) && !s.meets(c, lists) })
}

// keepsMode: clause 5.
func (s *second) keepsMode(log []api.Event, b api.Binding) bool {
	flat := slices.Concat(b...)
	var items []int
	for comp, list := range b {
		items = append(items, slices.Repeat([]int{s.comps[comp]}, len(list))...)
	}
	for i := 1; i < len(flat); i++ {
		for _, e := range log {
			between := isBehind(e, flat[i-1]) && isBehind(flat[i], e)
			if between && (s.query.Mode == api.ModeStrict || s.query.Mode == api.ModeNext && s.takes(items[i], e)) {
				return false
			}
		}
	}
	return true
}

// inRange: the range of rule 7, by the items around the negated one.
func (s *second) inRange(neg int, b api.Binding, e api.Event) bool {
	ahead := 0
	for _, item := range s.comps {
		if item < neg {
			ahead++
		}
	}
	if ahead == 0 {
		return atMost(last(b).Ts, e.Ts, s.query.Within) && isBehind(b[0][0], e)
	}
	return isBehind(e, b[ahead-1][len(b[ahead-1])-1]) && isBehind(b[ahead][0], e)
}

// isKilled: clause 6, which is rule 7 without the negations that trail.
func (s *second) isKilled(log []api.Event, b api.Binding) bool {
	lists := s.spread(b)
	for _, neg := range s.negs {
		if neg > s.comps[len(s.comps)-1] {
			continue
		}
		for _, e := range log {
			lists[neg] = []api.Event{e}
			kills := s.isOf(neg, e) && s.inRange(neg, b, e) && !slices.ContainsFunc(s.conjuncts, func(c conjunct) bool {
				return slices.Contains(c.bare, neg) && !s.isTrue(c.tree, api.Env{Lists: lists, Each: -1})
			})
			if kills {
				return true
			}
		}
		lists[neg] = nil
	}
	return false
}

func first(b api.Binding) api.Event { return slices.Concat(b...)[0] }

func last(b api.Binding) api.Event {
	flat := slices.Concat(b...)
	return flat[len(flat)-1]
}

// choices: all ways to split a row of events into lists of lengths that the components may have.
func (s *second) choices(row []api.Event) []api.Binding {
	var out []api.Binding
	var from func(b api.Binding, row []api.Event)
	from = func(b api.Binding, row []api.Event) {
		if len(b) == len(s.comps) {
			if len(row) == 0 {
				out = append(out, b)
			}
			return
		}
		item := s.query.Items[s.comps[len(b)]]
		for many := item.Lo; many <= min(item.Hi, len(row)); many++ {
			from(append(slices.Clone(b), slices.Clone(row[:many])), row[many:])
		}
	}
	from(nil, row)
	return out
}

// rows: all choices of events of a log, in their order.
func rows(log []api.Event) [][]api.Event {
	var out [][]api.Event
	for choice := range 1 << len(log) {
		var row []api.Event
		for i, e := range log {
			if choice>>i&1 == 1 {
				row = append(row, e)
			}
		}
		out = append(out, row)
	}
	return out
}

// stand: all bindings that stand over a log, by a plain search.
func (s *second) stand(log []api.Event) []api.Binding {
	var out []api.Binding
	for _, row := range rows(log) {
		for _, b := range s.choices(row) {
			if s.flawOf(log, b) == 0 {
				out = append(out, b)
			}
		}
	}
	slices.SortFunc(out, s.order)
	return out
}

// completed: those of them that end with the log's last event.
func (s *second) completed(log []api.Event) []api.Binding {
	return slices.DeleteFunc(s.stand(log), func(b api.Binding) bool { return last(b) != log[len(log)-1] })
}

// decide: when the binding's match is decided.
func (s *second) decide(b api.Binding) int64 {
	if s.query.Items[len(s.query.Items)-1].Neg {
		return first(b).Ts + s.query.Within
	}
	return last(b).Ts
}

// order: by the time of decision, then by the names, then by the lengths.
func (s *second) order(a, b api.Binding) int {
	key := func(x api.Binding) (names []api.Name, lens []int) {
		for _, l := range x {
			lens = append(lens, len(l))
			for _, e := range l {
				names = append(names, api.Name{Ts: e.Ts, Id: e.Id})
			}
		}
		return names, lens
	}
	if d, e := s.decide(a), s.decide(b); d != e {
		return compare(d < e)
	}
	names, lens := key(a)
	others, otherLens := key(b)
	byNames := slices.CompareFunc(names, others, func(n, m api.Name) int {
		if n == m {
			return 0
		}
		return compare(n.Ts < m.Ts || n.Ts == m.Ts && n.Id < m.Id)
	})
	if byNames != 0 {
		return byNames
	}
	return slices.Compare(lens, otherLens)
}

func compare(before bool) int {
	if before {
		return -1
	}
	return 1
}

// match: what is told of a binding.
func (s *second) match(b api.Binding) api.Match {
	m := api.Match{Decide: s.decide(b)}
	for _, l := range b {
		m.Lens = append(m.Lens, len(l))
		for _, e := range l {
			m.Names = append(m.Names, api.Name{Ts: e.Ts, Id: e.Id})
		}
	}
	for _, tree := range s.query.Ret {
		m.Vals = append(m.Vals, code.Eval(s.schema, s.query, tree, api.Env{Lists: s.spread(b), Each: -1}))
	}
	return m
}

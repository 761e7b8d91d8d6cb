package meaning

import (
	"slices"

	"sluice/api"
	"sluice/code"
	"sluice/num"
)

// none: the Each of an environment in which no item is gone through.
const none = -1

// conjunct: one of WHERE's, and the items whose variables it mentions barely, by PREV too, and those that it mentions by PREV.
type conjunct struct {
	tree       []api.Node
	bare, prev []int
	aggregates bool
}

func (m *Meaning) conjunctOf(tree []api.Node) conjunct {
	c := conjunct{tree: tree}
	for _, n := range tree {
		item := slices.IndexFunc(m.query.Items, func(i api.Item) bool { return i.Var == n.Var })
		switch {
		case item < 0:
		case n.Op == api.OpAttr:
			c.bare = append(c.bare, item)
		case n.Op == api.OpPrev:
			c.bare, c.prev = append(c.bare, item), append(c.prev, item)
		default:
			c.aggregates = true
		}
	}
	return c
}

// isOwn: is it an own filter of the item?
func (c conjunct) isOwn(item int) bool {
	others := slices.ContainsFunc(c.bare, func(i int) bool { return i != item })
	return len(c.bare) > 0 && !others && len(c.prev) == 0 && !c.aggregates
}

// isOf: is the event of one of the item's types?
func (m *Meaning) isOf(item int, e api.Event) bool {
	return slices.Contains(m.query.Items[item].Types, m.schema.Types[e.Type].Name)
}

// spread: the binding's events by item.
func (m *Meaning) spread(b api.Binding) [][]api.Event {
	out := make([][]api.Event, len(m.query.Items))
	for comp, item := range m.comps {
		out[item] = b[comp]
	}
	return out
}

func (m *Meaning) holds(tree []api.Node, env api.Env) bool {
	return num.True(code.Eval(m.schema, m.query, tree, env))
}

// isTrue: rule 5.
func (m *Meaning) isTrue(b api.Binding) bool {
	lists := m.spread(b)
	return !slices.ContainsFunc(m.conjuncts, func(c conjunct) bool { return !m.mentionsNegated(c) && !m.isMet(c, lists) })
}

func (m *Meaning) mentionsNegated(c conjunct) bool {
	return slices.ContainsFunc(c.bare, func(item int) bool { return m.query.Items[item].Neg })
}

// isMet: rule 5 of one conjunct.
func (m *Meaning) isMet(c conjunct, lists [][]api.Event) bool {
	each := slices.IndexFunc(c.bare, func(item int) bool { return m.query.Items[item].Hi > 1 })
	if each < 0 {
		return m.holds(c.tree, api.Env{Lists: lists, Each: none})
	}
	item := c.bare[each]
	for at := range lists[item] {
		isAsked := at > 0 || len(c.prev) == 0
		if isAsked && !m.holds(c.tree, api.Env{Lists: lists, Each: item, At: at}) {
			return false
		}
	}
	return true
}

// keepsMode: rule 6.
func (m *Meaning) keepsMode(log []api.Event, b api.Binding) bool {
	flat := slices.Concat(b...)
	var items []int
	for comp, list := range b {
		items = append(items, slices.Repeat([]int{m.comps[comp]}, len(list))...)
	}
	for i := 1; i < len(flat); i++ {
		for _, e := range log {
			if flat[i-1].Before(e) && e.Before(flat[i]) && !m.mayStandBetween(items[i], e) {
				return false
			}
		}
	}
	return true
}

// mayStandBetween: by the mode, may the event stand ahead of one of the item's, between it and the one that is bound ahead of it?
func (m *Meaning) mayStandBetween(item int, e api.Event) bool {
	switch m.query.Mode {
	case api.ModeNext:
		return !m.isOf(item, e) || slices.ContainsFunc(m.conjuncts, func(c conjunct) bool {
			return c.isOwn(item) && !m.holds(c.tree, api.Env{Lists: m.alone(item, e), Each: none})
		})
	case api.ModeStrict:
		return false
	}
	return true
}

// alone: a list for each item, empty but for one item, which has the event.
func (m *Meaning) alone(item int, e api.Event) [][]api.Event {
	out := make([][]api.Event, len(m.query.Items))
	out[item] = []api.Event{e}
	return out
}

// isKilled: rule 7.
func (m *Meaning) isKilled(log []api.Event, b api.Binding) bool {
	for item := range m.query.Items {
		if m.query.Items[item].Neg && slices.ContainsFunc(log, func(e api.Event) bool { return m.kills(item, b, e) }) {
			return true
		}
	}
	return false
}

// kills: does the event kill the binding in the place of the negated item?
func (m *Meaning) kills(item int, b api.Binding, e api.Event) bool {
	if !m.isOf(item, e) || !m.inRange(item, b, e) {
		return false
	}
	lists := m.spread(b)
	lists[item] = []api.Event{e}
	return !slices.ContainsFunc(m.conjuncts, func(c conjunct) bool {
		return slices.Contains(c.bare, item) && !m.holds(c.tree, api.Env{Lists: lists, Each: none})
	})
}

// inRange: the range of rule 7.
func (m *Meaning) inRange(item int, b api.Binding, e api.Event) bool {
	ahead := 0 // how many components stand ahead of the item
	for ahead < len(m.comps) && m.comps[ahead] < item {
		ahead++
	}
	begun := e.Ts >= last(b).Ts-m.query.Within
	if ahead > 0 {
		begun = last(b[:ahead]).Before(e)
	}
	ended := e.Ts > b[0][0].Ts+m.query.Within
	if ahead < len(b) {
		ended = !e.Before(b[ahead][0])
	}
	return begun && !ended
}

// Package meaning says what a query tells of events, by the words of the document alone: a plain search over the query's trees. No layer calls it: the tests hold the layers against it.
package meaning

import (
	"cmp"
	"slices"

	"sluice/api"
	"sluice/check"
	"sluice/code"
)

// Meaning: a query that is well formed over a schema.
type Meaning struct {
	schema    api.Schema
	query     api.Query
	conjuncts []conjunct
	comps     []int // by component its item's number
}

// Of a query.
func Of(s api.Schema, q api.Query) *Meaning {
	m := &Meaning{schema: s, query: q}
	for i, item := range q.Items {
		if !item.Neg {
			m.comps = append(m.comps, i)
		}
	}
	for _, root := range check.Conjuncts(q.Where) {
		m.conjuncts = append(m.conjuncts, m.conjunctOf(check.Sub(q.Where, root)))
	}
	return m
}

// InStream: does the event's type stand in an item?
func (m *Meaning) InStream(e api.Event) bool {
	for i := range m.query.Items {
		if m.isOf(i, e) {
			return true
		}
	}
	return false
}

// Key of an event of the stream.
func (m *Meaning) Key(e api.Event) int64 {
	if m.query.By == "" {
		return 0
	}
	return e.Attrs[slices.Index(m.schema.Types[e.Type].Attrs, m.query.By)]
}

// Matches: M(Q, A), in the order of matches.
func (m *Meaning) Matches(events []api.Event) []api.Match {
	logs := map[int64][]api.Event{}
	for _, e := range events {
		if m.InStream(e) {
			logs[m.Key(e)] = append(logs[m.Key(e)], e)
		}
	}
	var out []api.Match
	for _, log := range logs {
		slices.SortFunc(log, func(e, f api.Event) int { return compareNames(e.Name(), f.Name()) })
		for _, b := range m.bindings(log) {
			if m.isTrue(b) && m.keepsMode(log, b) && !m.isKilled(log, b) {
				out = append(out, m.match(b))
			}
		}
	}
	slices.SortFunc(out, compare)
	return out
}

// bindings: those that meet the rules 1 to 4, of events of one key in their order.
func (m *Meaning) bindings(log []api.Event) []api.Binding {
	var out []api.Binding
	// choose goes on with each choice of events from a place on, for the last component that is begun and for those behind it.
	var choose func(b api.Binding, from int)
	choose = func(b api.Binding, from int) {
		comp := len(b) - 1
		item, list := m.query.Items[m.comps[comp]], b[comp]
		if len(list) >= item.Lo {
			if len(b) == len(m.comps) {
				out = append(out, slices.Clone(b))
			} else {
				choose(append(slices.Clone(b), nil), from)
			}
		}
		for i := from; i < len(log) && len(list) < item.Hi; i++ {
			c := slices.Clone(b)
			c[comp] = append(slices.Clone(list), log[i])
			if m.isOf(m.comps[comp], log[i]) && last(c).Ts-c[0][0].Ts <= m.query.Within {
				choose(c, i+1)
			}
		}
	}
	choose(make(api.Binding, 1), 0)
	return out
}

// match: what is told of a binding.
func (m *Meaning) match(b api.Binding) api.Match {
	out := api.Match{Decide: last(b).Ts}
	if m.query.Items[len(m.query.Items)-1].Neg {
		out.Decide = b[0][0].Ts + m.query.Within
	}
	for _, list := range b {
		out.Lens = append(out.Lens, len(list))
		for _, e := range list {
			out.Names = append(out.Names, e.Name())
		}
	}
	for _, tree := range m.query.Ret {
		out.Vals = append(out.Vals, code.Eval(m.schema, m.query, tree, api.Env{Lists: m.spread(b), Each: none}))
	}
	return out
}

// last: a binding's last event, of those that are bound so far.
func last(b api.Binding) api.Event {
	flat := slices.Concat(b...)
	return flat[len(flat)-1]
}

// compare: the order of matches.
func compare(a, b api.Match) int {
	return cmp.Or(cmp.Compare(a.Decide, b.Decide), slices.CompareFunc(a.Names, b.Names, compareNames), slices.Compare(a.Lens, b.Lens))
}

func compareNames(a, b api.Name) int { return cmp.Or(cmp.Compare(a.Ts, b.Ts), cmp.Compare(a.Id, b.Id)) }

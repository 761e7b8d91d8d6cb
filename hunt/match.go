package hunt

import "sluice/api"

// outline: the match of a binding that is filled, less its results. Matches are ordered by no more than that.
func outline(p api.Plan, b api.Binding) api.Match {
	first, last := ends(b)
	m := api.Match{Decide: last.Ts, Lens: make([]int, len(b))}
	if p.Tail {
		m.Decide = first.Ts + p.Query.Within
	}
	for comp, list := range b {
		m.Lens[comp] = len(list)
		for _, e := range list {
			m.Names = append(m.Names, e.Name())
		}
	}
	return m
}

// copyOf: the binding in memory of its own, each list by itself.
func copyOf(b api.Binding) api.Binding {
	out := make(api.Binding, len(b))
	for comp, list := range b {
		out[comp] = make([]api.Event, len(list))
		copy(out[comp], list)
	}
	return out
}

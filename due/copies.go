package due

import "sluice/api"

// copied: the list in memory of its own.
func copied[T any](list []T) []T {
	out := make([]T, len(list))
	copy(out, list)
	return out
}

// copyOfMatch: the match with lists of its own.
func copyOfMatch(m api.Match) api.Match {
	m.Names, m.Lens, m.Vals = copied(m.Names), copied(m.Lens), copied(m.Vals)
	return m
}

// copyOf: the waiting match with lists of its own, those of what is bound too.
func copyOf(w api.Waiting) api.Waiting {
	w.Match, w.Bound = copyOfMatch(w.Match), copied(w.Bound)
	for comp, list := range w.Bound {
		w.Bound[comp] = copied(list)
	}
	return w
}

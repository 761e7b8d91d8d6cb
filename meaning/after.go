package meaning

import (
	"slices"

	"sluice/api"
)

// keys: by name the key of an event of the stream.
func (m *Meaning) keys(events []api.Event) map[api.Name]int64 {
	out := map[api.Name]int64{}
	for _, e := range events {
		if m.InStream(e) {
			out[e.Name()] = m.Key(e)
		}
	}
	return out
}

// Told: T(Q, A): what the clause AFTER leaves of matches of these events, which are in the order of matches, if it begins with used names.
func (m *Meaning) Told(events []api.Event, matches []api.Match, used []api.Name) []api.Match {
	keys := m.keys(events)
	told, begun := map[int64][]api.Match{}, map[int64][]api.Name{}
	for _, n := range used {
		begun[keys[n]] = append(begun[keys[n]], n)
	}
	var out []api.Match
	for _, x := range matches {
		key := keys[x.Names[0]]
		if !m.isPassedOver(x, told[key], begun[key]) {
			told[key] = append(told[key], x)
			out = append(out, x)
		}
	}
	return out
}

// isPassedOver: behind what has been told of its key.
func (m *Meaning) isPassedOver(x api.Match, told []api.Match, used []api.Name) bool {
	switch m.query.After {
	case api.AfterNext, api.AfterOnce:
		for _, t := range told {
			used = append(slices.Clone(used), m.uses(t)...)
		}
		return slices.ContainsFunc(m.uses(x), func(n api.Name) bool { return slices.Contains(used, n) })
	case api.AfterPast:
		if len(told) > 0 {
			used = m.uses(told[len(told)-1])
		}
		return len(used) > 0 && !used[0].Before(x.Names[0])
	}
	return false
}

// uses: the names of a told match that the clause looks at.
func (m *Meaning) uses(t api.Match) []api.Name {
	switch m.query.After {
	case api.AfterNext:
		return t.Names[:1]
	case api.AfterPast:
		return t.Names[len(t.Names)-1:]
	case api.AfterOnce:
		return t.Names
	}
	return nil
}

// Used: the used names at a mark, these matches being told up to it, if the clause began with used names.
func (m *Meaning) Used(events []api.Event, told []api.Match, used []api.Name, mark int64) []api.Name {
	keys := m.keys(events)
	out := slices.Clone(used)
	for _, t := range told {
		if m.query.After == api.AfterPast {
			out = slices.DeleteFunc(out, func(n api.Name) bool { return keys[n] == keys[t.Names[0]] })
		}
		out = append(out, m.uses(t)...)
	}
	out = slices.DeleteFunc(out, func(n api.Name) bool { return n.Ts <= mark-m.query.Within })
	slices.SortFunc(out, compareNames)
	return slices.Compact(out)
}

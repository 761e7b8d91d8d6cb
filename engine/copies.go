package engine

import "sluice/api"

// copied: the list in memory of its own.
func copied[T any](list []T) []T {
	out := make([]T, len(list))
	copy(out, list)
	return out
}

func copyOfSchema(s api.Schema) api.Schema {
	s.Types = copied(s.Types)
	for i := range s.Types {
		s.Types[i].Attrs = copied(s.Types[i].Attrs)
	}
	return s
}

func copyOfQuery(q api.Query) api.Query {
	q.Items, q.Where, q.Ret = copied(q.Items), copied(q.Where), copied(q.Ret)
	for i := range q.Items {
		q.Items[i].Types = copied(q.Items[i].Types)
	}
	for i := range q.Ret {
		q.Ret[i] = copied(q.Ret[i])
	}
	return q
}

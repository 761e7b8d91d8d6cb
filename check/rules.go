package check

import (
	"slices"

	"sluice/api"
	"sluice/event"
)

// timestamp: what each type has without being asked, and what is no attribute to partition by.
const timestamp = "ts"

// checker: a well shaped query over a sound schema, and by variable the number of its item.
type checker struct {
	schema api.Schema
	query  api.Query
	items  map[string]int
}

func (c checker) eachItem() api.Flaw {
	for number, item := range c.query.Items {
		if code := c.item(number, item); code != api.OK {
			return api.Flaw{Code: code, Part: api.PartItem, Index: number}
		}
	}
	return api.Flaw{}
}

func (c checker) item(number int, i api.Item) api.Errno {
	for _, name := range i.Types {
		if event.TypeOf(c.schema, name) < 0 {
			return api.ErrNoType
		}
	}
	// The schema has few types, so that in a long list one soon comes again.
	for at, name := range i.Types {
		if slices.Contains(i.Types[:at], name) {
			return api.ErrTypeTwice
		}
	}
	if i.Lo < 1 || i.Lo > i.Hi || i.Hi > api.MaxRep {
		return api.ErrRep
	}
	if c.items[i.Var] != number {
		return api.ErrVarTwice
	}
	return api.OK
}

func (c checker) anyComponent() api.Flaw {
	for _, item := range c.query.Items {
		if !item.Neg {
			return api.Flaw{}
		}
	}
	return api.Flaw{Code: api.ErrNoPositive, Part: api.PartItem}
}

func (c checker) where() api.Flaw {
	if at, code := walk(c.query.Where, true, c.lookFor(mayAsk)); code != api.OK {
		return api.Flaw{Code: code, Part: api.PartWhere, Index: at}
	}
	return api.Flaw{}
}

func (c checker) conjuncts() api.Flaw {
	t := c.query.Where
	for _, root := range Conjuncts(t) {
		if c.mixes(t[begin(t, root) : root+1]) {
			return api.Flaw{Code: api.ErrMix, Part: api.PartWhere, Index: root}
		}
	}
	return api.Flaw{}
}

// mixes: does a conjunct mention what may not stand together? No negated variable is said by an aggregate, so that it is enough to ask for two items that are not single and that are mentioned barely.
func (c checker) mixes(t []api.Node) bool {
	others := 0
	for _, number := range usesOf(c.items, t).Bare {
		if !isSingle(c.query.Items[number]) {
			others++
		}
	}
	return others > 1
}

func (c checker) window() api.Flaw {
	if c.query.Within > api.MaxWindow {
		return api.Flaw{Code: api.ErrWithin, Part: api.PartWithin}
	}
	return api.Flaw{}
}

func (c checker) partition() api.Flaw {
	by := c.query.By
	if by == "" {
		return api.Flaw{}
	}
	lacks := func(i api.Item) bool { return !hasAttr(c.schema, i, by) }
	if by == timestamp || slices.ContainsFunc(c.query.Items, lacks) {
		return api.Flaw{Code: api.ErrPart, Part: api.PartBy}
	}
	return api.Flaw{}
}

func (c checker) results() api.Flaw {
	if len(c.query.Ret) > api.MaxReturns {
		return api.Flaw{Code: api.ErrReturns, Part: api.PartReturn, Index: api.MaxReturns}
	}
	find := c.lookFor(mayReturn)
	for number, t := range c.query.Ret {
		if at, code := walk(t, false, find); code != api.OK {
			return api.Flaw{Code: code, Part: api.PartReturn, Index: number, Sub: at}
		}
	}
	return api.Flaw{}
}

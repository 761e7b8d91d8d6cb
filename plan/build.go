package plan

import (
	"slices"

	"sluice/api"
	"sluice/check"
	"sluice/code"
	"sluice/event"
)

// once: the Each of a condition that goes through no item.
const once = -1

// place: what an item has become: the negated item, or the component, of that number.
type place struct {
	negated bool
	number  int
}

// builder: the plan of a well formed query while it is made. Its schema and its query are copied ahead of all else.
type builder struct {
	places map[string]place // by the item's variable
	plan   api.Plan
}

// items lays down what each item becomes. The components that are there already are those ahead of a negated item; the first one behind it has the next number, and where none comes any more that is how many there are.
func (b *builder) items() {
	p := &b.plan
	for number, item := range p.Query.Items {
		types := numbers(p.Schema, item.Types)
		if item.Neg {
			b.places[item.Var] = place{negated: true, number: len(p.Negs)}
			p.Negs = append(p.Negs, api.Neg{Item: number, Types: types, After: len(p.Comps) - 1, Before: len(p.Comps)})
		} else {
			b.places[item.Var] = place{number: len(p.Comps)}
			p.Comps = append(p.Comps, api.Comp{Item: number, Types: types, Lo: item.Lo, Hi: item.Hi})
		}
	}
	p.Lead = p.Query.Items[0].Neg
	p.Tail = p.Query.Items[len(p.Query.Items)-1].Neg
}

// numbers: those of types of the schema.
func numbers(s api.Schema, names []string) []int {
	out := make([]int, len(names))
	for i, name := range names {
		out[i] = event.TypeOf(s, name)
	}
	return out
}

// types: which of them are used, and where those have the attribute to partition by.
func (b *builder) types() {
	p := &b.plan
	p.Used = make([]bool, len(p.Schema.Types))
	p.Cols = make([]int, len(p.Schema.Types))
	for _, item := range p.Query.Items {
		for _, typ := range numbers(p.Schema, item.Types) {
			p.Used[typ] = true
		}
	}
	for typ, used := range p.Used {
		p.Cols[typ] = api.ColNone
		if used && p.Query.By != "" {
			p.Cols[typ] = event.AttrOf(p.Schema, typ, p.Query.By)
		}
	}
}

func (b *builder) results() {
	for _, tree := range b.plan.Query.Ret {
		b.plan.Ret = append(b.plan.Ret, b.program(tree))
	}
}

func (b *builder) program(tree []api.Node) api.Program {
	return code.Compile(b.plan.Schema, b.plan.Query, tree)
}

func (b *builder) conjuncts() {
	where := b.plan.Query.Where
	for _, root := range check.Conjuncts(where) {
		b.conjunct(subtree(where, root))
	}
}

// subtree: what check.Sub answers of a place of a well shaped tree. That looks through the whole tree each time, which for every conjunct of a long one would take far too long.
func subtree(t []api.Node, root int) []api.Node {
	first := root
	for t[first].A >= 0 {
		first = t[first].A
	}
	out := copied(t[first : root+1])
	for i := range out {
		if out[i].A >= 0 {
			out[i].A -= first
		}
		if out[i].B >= 0 {
			out[i].B -= first
		}
	}
	return out
}

// conjunct lays a conjunct's program down at its place.
func (b *builder) conjunct(tree []api.Node) {
	program, uses := b.program(tree), check.Uses(b.plan.Query, tree)
	if len(uses.Bare)+len(uses.Agg) == 0 {
		b.plan.Fixed = append(b.plan.Fixed, program)
		return
	}
	own := len(uses.Bare) == 1 && len(uses.Prev)+len(uses.Agg) == 0
	at := b.decides(uses)
	if at.negated {
		n := &b.plan.Negs[at.number]
		if own {
			n.Own = append(n.Own, program)
		} else {
			n.Rest = append(n.Rest, program)
		}
		return
	}
	c := &b.plan.Comps[at.number]
	if own {
		c.Own = append(c.Own, program)
	} else {
		c.Conds = append(c.Conds, api.Cond{Prog: program, Each: b.repeated(uses.Bare), Prev: len(uses.Prev) > 0})
	}
}

// decides: where a conjunct with these uses is decided: at the negated item that it mentions, else at the first of its components, which a search that goes back comes to last.
func (b *builder) decides(uses api.Use) place {
	for _, item := range uses.Bare {
		if at := b.placeOf(item); at.negated {
			return at
		}
	}
	return b.placeOf(slices.Min(slices.Concat(uses.Bare, uses.Agg)))
}

func (b *builder) placeOf(item int) place { return b.places[b.plan.Query.Items[item].Var] }

// repeated: the one of the items that is repeated, if there is one.
func (b *builder) repeated(items []int) int {
	for _, item := range items {
		if b.plan.Query.Items[item].Hi > 1 {
			return item
		}
	}
	return once
}

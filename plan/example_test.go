package plan_test

import (
	"fmt"

	"sluice/api"
	"sluice/event"
	"sluice/parse"
	"sluice/plan"
)

// The README's lines.
func Example() {
	schema, _, _ := event.ParseSchema("type A(x, k) type B(x, k) type C(k)")
	query, _, _, _ := parse.Parse("PATTERN SEQ(A a, !C n, B+ b) WHERE a.x = 1 AND b.x > PREV(b.x) AND n.k = a.k WITHIN 5 PARTITION BY k")
	p, flaw := plan.Build(schema, query)
	fmt.Println(flaw == api.Flaw{})
	fmt.Println(p.Comps[1].Item, p.Comps[1].Types)
	fmt.Println(p.Negs[0].After, p.Negs[0].Before)
	fmt.Println(len(p.Comps[0].Own), len(p.Comps[1].Conds), len(p.Negs[0].Rest))
	fmt.Println(p.Cols)

	e, _, _ := event.ParseEvent(schema, "10 7 A 1 3")
	fmt.Println(plan.Takes(p, 0, e), plan.Takes(p, 1, e))
	fmt.Println(plan.Guards(p, 0, e))
	fmt.Println(plan.InStream(p, e))
	fmt.Println(plan.Key(p, e))
	f, _, _ := event.ParseEvent(schema, "11 8 B 4 3")
	lists := plan.Spread(p, api.Binding{{e}, {f, f}})
	fmt.Println(len(lists), len(lists[0]), len(lists[1]), len(lists[2]))

	query.Items[0].Types[0] = "D"
	_, flaw = plan.Build(schema, query)
	fmt.Println(flaw.Code == api.ErrNoType, flaw.Part == api.PartItem, flaw.Index)
	// Output:
	// true
	// 2 [1]
	// 0 1
	// 1 1 1
	// [1 1 0]
	// true false
	// false
	// true
	// 3
	// 3 1 0 2
	// true true 0
}

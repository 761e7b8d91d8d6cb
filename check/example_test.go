package check_test

import (
	"fmt"

	"sluice/api"
	"sluice/check"
	"sluice/event"
	"sluice/parse"
	"sluice/show"
)

// The README's lines.
func Example() {
	schema, _, _ := event.ParseSchema("type A(x, k) type B(x)")
	query, spots, _, _ := parse.Parse("PATTERN SEQ(A a, !B b) WHERE a.x > 1 AND b.x = a.y WITHIN 5")
	flaw := check.Check(schema, query)
	fmt.Println(flaw.Code == api.ErrNoAttr, flaw.Part == api.PartWhere, flaw.Index, check.Place(spots, flaw))
	query.Where[4].Attr = "k"
	fmt.Println(check.Check(schema, query) == api.Flaw{})
	text, _ := show.Expr(check.Sub(query.Where, 5))
	fmt.Println(check.Conjuncts(query.Where), check.Size(query.Where, 5), text)
	fmt.Println(check.Uses(query, query.Where).Bare, check.IsTruth(query.Where))
	// Output:
	// true true 4 47
	// true
	// [2 5] 3 b . x = a . k
	// [0 1] true
}

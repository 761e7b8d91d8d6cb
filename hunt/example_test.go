package hunt_test

import (
	"fmt"

	"sluice/api"
	"sluice/event"
	"sluice/guard"
	"sluice/hunt"
	"sluice/parse"
	"sluice/plan"
	"sluice/stacks"
)

// The README's lines.
func Example() {
	schema, _, _ := event.ParseSchema("type A(x) type B(x)")
	query, _, _, _ := parse.Parse("PATTERN SEQ(A a, B+ b) WHERE b.x > a.x WITHIN 10 RETURN SUM(b.x)")
	p, _ := plan.Build(schema, query)
	s, g := stacks.New(p), guard.New(p)
	for _, line := range []string{"1 1 A 0", "2 2 B 5", "3 3 A 4", "4 4 B 7"} {
		e, _, _ := event.ParseEvent(schema, line)
		if s.Add(e) {
			g.Add(e)
		}
	}
	found := hunt.All(p, s, g)
	fmt.Println(told(found...))
	fmt.Println(hunt.Finish(p, found[0]))
	fmt.Println(hunt.Finish(p, found[0][:1]))
	for b := range hunt.Each(p, s, g) {
		fmt.Println(len(b))
		break
	}
	log := s.Log()
	fmt.Println(hunt.Fits(p, log, api.Binding{log[:1], log[1:2]}))
	fmt.Println(hunt.Fits(p, log, api.Binding{log[2:3], log[1:2]}))
	// Output:
	// [1/1][2/2 4/4] [1/1][4/4] [3/3][4/4]
	// {4 [{1 1} {2 2} {4 4}] [1 2] [{true 12}]}
	// {0 [] [] []}
	// 2
	// true
	// false
}

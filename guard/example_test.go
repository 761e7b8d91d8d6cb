package guard_test

import (
	"fmt"

	"sluice/api"
	"sluice/event"
	"sluice/guard"
	"sluice/parse"
	"sluice/plan"
)

// The README's lines.
func Example() {
	schema, _, _ := event.ParseSchema("type A(x, k) type B(x, k) type C(k)")
	query, _, _, _ := parse.Parse("PATTERN SEQ(A a, !B n, C c) WHERE n.x = 1 AND n.k = a.k WITHIN 5")
	p, _ := plan.Build(schema, query)
	read := func(line string) api.Event {
		e, _, _ := event.ParseEvent(schema, line)
		return e
	}
	g := guard.New(p)
	fmt.Println(g.Add(read("2 1 B 1 7")))
	fmt.Println(g.Add(read("3 1 B 2 7")))
	fmt.Println(g.Add(read("2 0 B 1 7")))
	fmt.Println(shown(g.Kept(0)), shown(g.Kept(1)))
	a, c := read("1 1 A 9 7"), read("4 1 C 7")
	fmt.Println(g.Blocked(0, api.Binding{{a}, {c}}))
	a.Attrs[1] = 8
	fmt.Println(g.Blocked(0, api.Binding{{a}, {c}}))
	fmt.Println(guard.InRange(p, 0, api.Binding{{a}, {c}}, read("3 1 B 2 7")))
	fmt.Println(g.Prune(2))
	fmt.Println(g.Add(read("2 9 B 1 7")))
	// Output:
	// 1
	// 0
	// 0
	// [2/1] []
	// true
	// false
	// true
	// 1
	// 0
}

package stacks_test

import (
	"fmt"

	"sluice/event"
	"sluice/parse"
	"sluice/plan"
	"sluice/stacks"
)

// The README's lines.
func Example() {
	schema, _, _ := event.ParseSchema("type A(x) type B(x) type C(x)")
	query, _, _, _ := parse.Parse("PATTERN SEQ(A a, !C n, (A|B) b) WHERE a.x > 0 WITHIN 5")
	p, _ := plan.Build(schema, query)
	s := stacks.New(p)
	for _, line := range []string{"1 1 A 3", "2 1 B 9", "3 1 C 0", "4 1 A 5"} {
		e, _, _ := event.ParseEvent(schema, line)
		fmt.Println(s.Add(e))
	}
	late, _, _ := event.ParseEvent(schema, "4 0 A 5")
	fmt.Println(s.Add(late))
	fmt.Println(s.Len(), s.Depth(0), s.Depth(1))
	x, ok := s.At(1, 2)
	fmt.Println(shown(s.Log()[3:]), x.Event == s.Log()[3], x.Rank, x.Prev, ok)
	_, ok = s.At(1, 3)
	fmt.Println(ok)
	fmt.Println(s.Prune(2))
	fmt.Println(shown(s.Log()))
	x, _ = s.At(1, 0)
	fmt.Println(x.Event == s.Log()[1], x.Rank, x.Prev)
	// Output:
	// true
	// true
	// true
	// true
	// false
	// 4 2 3
	// [4/1] true 3 1 true
	// false
	// 2
	// [3/1 4/1]
	// true 1 0
}

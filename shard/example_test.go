package shard_test

import (
	"fmt"

	"sluice/event"
	"sluice/parse"
	"sluice/plan"
	"sluice/shard"
)

// The README's lines.
func Example() {
	schema, _, _ := event.ParseSchema("type A(k) type B(k) type C(k)")
	query, _, _, _ := parse.Parse("PATTERN SEQ(A a, !B n, C c) AFTER NEXT WITHIN 5 PARTITION BY k")
	p, _ := plan.Build(schema, query)
	s := shard.New(p)
	var taken []bool
	for _, line := range []string{"1 1 A 7", "2 2 A 8", "3 1 B 8", "4 1 C 7", "4 2 C 8", "4 2 C 7", "5 1 A 7", "6 1 C 7"} {
		e, _, _ := event.ParseEvent(schema, line)
		taken = append(taken, s.Step(e))
	}
	fmt.Println(taken)
	fmt.Println(spell(s.Waiting()))
	fmt.Println(spell(s.Tick(5)))
	fmt.Println(spellNames(s.Used()))
	other, ok := shard.Restore(p, 5, s.Kept(), s.Waiting(), s.Used())
	fmt.Println(ok)
	fmt.Println(spell(s.Tick(6)))
	fmt.Println(s.Keys(), spellEvents(s.Kept()))
	fmt.Println(spell(other.Close()))
	fmt.Println(other.Keys(), other.Kept())
	// Output:
	// [true true true true true false true true]
	// 4 1/1,4/1; 6 1/1,6/1; 6 5/1,6/1
	// 4 1/1,4/1
	// 1/1
	// true
	// 6 5/1,6/1
	// [7 8] 2/2 3/1 4/1 4/2 5/1 6/1
	// 6 5/1,6/1
	// [] []
}

package due_test

import (
	"fmt"

	"sluice/api"
	"sluice/due"
)

// The README's lines.
func Example() {
	one := api.Match{Decide: 5, Names: []api.Name{{Ts: 1, Id: 1}, {Ts: 3, Id: 2}}, Lens: []int{2}}
	two := api.Match{Decide: 5, Names: one.Names, Lens: []int{1, 1}}
	late := api.Match{Decide: 9, Names: []api.Name{{Ts: 0, Id: 0}}, Lens: []int{1}}
	again := one
	again.Vals = []api.Val{{Known: true, N: 7}}
	d := due.New()
	fmt.Println(d.Add(api.Waiting{Match: one}), d.Add(api.Waiting{Match: two}), d.Add(api.Waiting{Match: late}))
	fmt.Println(d.Add(api.Waiting{Match: again}))
	fmt.Println(spelt(matches(d.Take(4))), spelt(matches(d.Take(5))))
	fmt.Println(spelt(matches(d.List())), d.Len())
	fmt.Println(d.Add(api.Waiting{Match: again}), d.Len())
	fmt.Println(spelt(due.Merge([]api.Match{late, again}, []api.Match{one, two})))
	// Output:
	// true true true
	// false
	// [] [5 1/1,3/2 [1 1]; 5 1/1,3/2 [2]]
	// [9 0/0 [1]] 1
	// true 2
	// [5 1/1,3/2 [1 1]; 5 1/1,3/2 [2] (7); 5 1/1,3/2 [2]; 9 0/0 [1]]
}

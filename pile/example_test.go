package pile_test

import (
	"fmt"

	"sluice/api"
	"sluice/pile"
)

// The README's lines.
func Example() {
	p := pile.New[api.Name]()
	p.Push(api.Name{Ts: 5, Id: 1})
	p.Push(api.Name{Ts: 3, Id: 9})
	p.Push(api.Name{Ts: 3, Id: 2})
	fmt.Println(p.Len())
	fmt.Println(p.Peek())
	fmt.Println(p.Pop())
	fmt.Println(p.Sorted())
	fmt.Println(p.Len())
	p.Pop()
	p.Pop()
	fmt.Println(p.Pop())

	late, early := api.Event{Ts: 4, Id: 4, Type: 1}, api.Event{Ts: 2, Id: 2}
	other := api.Event{Ts: 4, Id: 4, Type: 0}
	for _, e := range pile.Sort([]api.Event{late, other, early}) {
		fmt.Println(e.Ts, e.Id, e.Type)
	}
	// Output:
	// 3
	// {3 2} true
	// {3 2} true
	// [{3 9} {5 1}]
	// 2
	// {0 0} false
	// 2 2 0
	// 4 4 1
	// 4 4 0
}

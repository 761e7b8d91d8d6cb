package gate_test

import (
	"fmt"

	"sluice/api"
	"sluice/gate"
)

// The README's lines.
func Example() {
	g, code := gate.New(3)
	fmt.Println(code == api.OK)
	for _, e := range []api.Event{{Ts: 10, Id: 1}, {Ts: 5, Id: 9}, {Ts: 5, Id: 2}} {
		fmt.Println(g.Push(e) == api.OK)
	}
	fmt.Println(g.Push(api.Event{Ts: 5, Id: 9}) == api.ErrTwice)
	fmt.Println(g.Push(api.Event{Ts: 7, Id: 1}) == api.ErrFull)
	events, code := g.Advance(5)
	fmt.Println(shown(events), code == api.OK)
	fmt.Println(g.Push(api.Event{Ts: 5, Id: 3}) == api.ErrLate)
	fmt.Println(g.Mark(), g.Closed(), g.Len(), shown(g.Held()))
	other, code := gate.Restore(3, g.Mark(), g.Closed(), g.Held())
	fmt.Println(code == api.OK)
	events, code = other.Flush()
	fmt.Println(shown(events), code == api.OK)
	_, code = other.Advance(20)
	fmt.Println(code == api.ErrClosed)
	// Output:
	// true
	// true
	// true
	// true
	// true
	// true
	// [5/2 5/9] true
	// true
	// 5 false 1 [10/1]
	// true
	// [10/1] true
	// true
}

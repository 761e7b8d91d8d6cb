package engine_test

import (
	"fmt"

	"sluice/api"
	"sluice/engine"
	"sluice/event"
)

// The README's lines.
func Example() {
	g, fault := engine.Open("type A(k) type B(k)", "PATTERN SEQ(A a, !B n) WITHIN 10 PARTITION BY k", 100)
	fmt.Println(fault == api.Fault{})
	for _, line := range []string{"9 3 B 8", "5 1 A 7", "6 2 A 8"} {
		e, _, _ := event.ParseEvent(g.State().Schema, line)
		fmt.Println(g.Push(e) == api.OK)
	}
	matches, code := g.Advance(8)
	fmt.Println(len(matches), code == api.OK)
	fmt.Printf("%+v\n", g.Sizes())
	fmt.Println(g.Push(api.Event{Ts: 8, Id: 9}) == api.ErrLate)
	other, code := engine.Resume(g.State())
	fmt.Println(code == api.OK)
	matches, _ = g.Advance(14)
	fmt.Println(spell(matches))
	matches, _ = g.Advance(15)
	fmt.Println(spell(matches))
	matches, _ = other.Flush()
	fmt.Println(spell(matches))
	_, code = other.Advance(20)
	fmt.Println(code == api.ErrClosed)
	_, fault = engine.Open("type A(k)", "PATTERN SEQ(A a, B b) WITHIN 1", 100)
	fmt.Println(fault.Where, fault.Code == api.ErrNoType, fault.At)
	// Output:
	// true
	// true
	// true
	// true
	// 0 true
	// {Mark:8 Closed:false Held:1 Kept:2 Waiting:2 Parts:2}
	// true
	// true
	//
	// 15 5/1
	// 15 5/1
	// true
	// 2 true 17
}

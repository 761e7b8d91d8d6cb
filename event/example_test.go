package event_test

import (
	"fmt"

	"sluice/event"
)

// The README's lines.
func Example() {
	schema, code, at := event.ParseSchema("type Buy(sym, price) type Halt()")
	fmt.Println(code == 0, at, event.TypeOf(schema, "Halt"), event.AttrOf(schema, 0, "price"))
	text, _ := event.PrintSchema(schema)
	fmt.Print(text)
	e, _, _ := event.ParseEvent(schema, " 10 7  Buy 3 -04 ")
	fmt.Println(e.Ts, e.Id, e.Type, e.Attrs)
	line, _ := event.PrintEvent(schema, e)
	fmt.Println(line)
	_, code, at = event.ParseEvent(schema, "10 7 Buy 3 x")
	fmt.Println(int(code), at)
	// Output:
	// true 0 1 1
	// type Buy(sym, price)
	// type Halt()
	// 10 7 0 [3 -4 0 0 0 0 0 0]
	// 10 7 Buy 3 -4
	// 26 11
}

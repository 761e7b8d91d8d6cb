package code_test

import (
	"fmt"

	"sluice/api"
	"sluice/code"
	"sluice/event"
	"sluice/parse"
)

// The README's lines.
func Example() {
	schema, _, _ := event.ParseSchema("type A(x, k) type B(k)")
	query, _, _, _ := parse.Parse("PATTERN SEQ(A a, B+ b) WITHIN 9")
	tree, _, _, _ := parse.Expr("b.k > 3 OR PREV(b.k) = a.k")
	program := code.Compile(schema, query, tree)
	fmt.Println(len(program.Code), program.Cols)

	one := func(typ int, values ...int64) api.Event {
		e := api.Event{Type: typ}
		copy(e.Attrs[:], values)
		return e
	}
	lists := [][]api.Event{{one(0, 3, 9)}, {one(1, 4), one(1, 9), one(1, 2)}}
	env := api.Env{Lists: lists, Each: 1, At: 2}
	fmt.Println(code.Run(program, env))
	fmt.Println(code.Eval(schema, query, tree, env))
	fmt.Println(code.Holds(program, api.Env{Lists: lists, Each: 1, At: 3}))
	fmt.Println(code.Every(api.Cond{Prog: program, Each: 1, Prev: true}, lists))
	_, refused := code.Run(api.Program{Code: []api.Instr{{Code: api.CodeAdd}}}, env)
	fmt.Println(refused == api.ErrCode)
	// Output:
	// 8 [[1 0]]
	// {true 1} sluice: refusal 0
	// {true 1}
	// false
	// true
	// true
}

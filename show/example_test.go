package show_test

import (
	"fmt"

	"sluice/api"
	"sluice/parse"
	"sluice/show"
)

// The README's lines.
func Example() {
	query, _, _, _ := parse.Parse("pattern seq((A)a, B b{1,4}) using any where (a.x*2)+1 > b.x within 010")
	text, code := show.Print(query)
	fmt.Println(text, code == api.OK)
	nodes, _, _, _ := parse.Expr("((a.x)-(1-2))")
	text, _ = show.Expr(nodes)
	fmt.Println(text)
	fmt.Println(show.Tree(nodes), show.Tree(nodes[1:]), show.Shaped(query))
	query.Within = -1
	text, code = show.Print(query)
	fmt.Printf("%q %v\n", text, code == api.ErrShape)
	// Output:
	// PATTERN SEQ ( A a , B + b ) WHERE a . x * 2 + 1 > b . x WITHIN 10 true
	// a . x - ( 1 - 2 )
	// true false true
	// "" true
}

package parse_test

import (
	"fmt"

	"sluice/api"
	"sluice/parse"
)

// The README's lines.
func Example() {
	text := "PATTERN SEQ(Order o, !Cancel c, Ship+ s) USING NEXT WHERE o.qty > 2 WITHIN 10"
	query, spots, code, at := parse.Parse(text)
	fmt.Println(code == api.OK, at, len(query.Items), query.Items[1].Neg, query.Items[2].Var, query.Items[2].Lo, query.Items[2].Hi, query.Mode == api.ModeNext)
	fmt.Println(len(query.Where), query.Where[2].Op == api.OpGt, query.Within, spots.Items, spots.Where, spots.Within)
	nodes, places, _, _ := parse.Expr("1 - 2 * a.x")
	fmt.Println(nodes, places)
	_, _, code, at = parse.Parse("PATTERN SEQ(A a) WITHIN")
	fmt.Println(code == api.ErrWord, at)
	_, _, code, at = parse.Expr("1 < 2 < 3")
	fmt.Println(code == api.ErrWord, at)
	// Output:
	// true 0 3 true s 1 4 true
	// 3 true 10 [12 21 32] [58 66 64] 75
	// [{1 1   -1 -1} {1 2   -1 -1} {4 0 a x -1 -1} {16 0   1 2} {15 0   0 3}] [0 4 8 6 2]
	// true 23
	// true 6
}

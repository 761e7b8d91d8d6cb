package num_test

import (
	"fmt"

	"sluice/api"
	"sluice/num"
)

// The README's lines.
func Example() {
	three := api.Val{Known: true, N: 3}
	zero := api.Val{Known: true, N: 0}

	fmt.Println(num.Add(three, three))
	fmt.Println(num.Div(three, zero))
	fmt.Println(num.Compare(api.OpLt, zero, three))
	fmt.Println(num.And(zero, num.Div(three, zero)))
	fmt.Println(num.True(num.Div(three, zero)))
	fmt.Println(num.Apply(api.OpMul, three, three))
	fmt.Println(num.Fold(api.OpSum, []int64{1<<63 - 1, 1, -1}))
	// Output:
	// {true 6}
	// {false 0}
	// {true 1}
	// {true 0}
	// false
	// {true 9}
	// {true 9223372036854775807}
}

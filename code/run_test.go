package code_test

import (
	"fmt"
	"math"
	"slices"
	"testing"

	"sluice/api"
	"sluice/code"
)

// unknown: instructions that lay down an unknown value.
var unknown = []api.Instr{push(0), push(0), plainly(api.CodeDiv)}

func expectRun(t *testing.T, why string, p api.Program, env api.Env, v api.Val, want api.Errno) {
	t.Helper()
	if got, e := code.Run(p, env); got != v || e != want {
		t.Errorf("%s: %+v: %v, %d, want %v, %d", why, p, got, e, v, want)
	}
	if got := code.Holds(p, env); got != (want == api.OK && v.Known && v.N != 0) {
		t.Errorf("7.7: %+v: %v", p, got)
	}
}

// needs: how many operands each instruction takes.
var needs = [27]int{
	0, 0, 0, 0, 0, 0, 0, 0, 0, 0,
	1, 1, 2, 2, 2, 2, 2, 2, 2, 2, 2, 2, 2, 2, 2,
	1, 1,
}

// Promise 7.5: too few values on the stack at each kind of instruction. Just as many are enough; more of them stay.
func TestOperandsOnTheStack(t *testing.T) {
	env := api.Env{Lists: told(), Each: -1}
	for c := api.CodePush; c <= api.CodeIfYes; c++ {
		for values := range 5 {
			var p api.Program
			for range values {
				p.Code = append(p.Code, push(6))
			}
			p.Code = append(p.Code, api.Instr{Code: c, N: 6, Item: 1, To: values + 1})
			p.Cols = [][]int{{0, 0}}
			if values < needs[c] {
				expectRun(t, fmt.Sprint("7.5: operands of ", c), p, env, none, api.ErrCode)
				continue
			}
			left := values + 1 - needs[c]
			if c >= api.CodeIfNo {
				left = values
			}
			for range left - 1 {
				p.Code = append(p.Code, plainly(api.CodeAdd))
			}
			if got, e := code.Run(p, env); e != api.OK {
				t.Errorf("7.5: %d with %d values: %v, %d", c, values, got, e)
			}
			p.Code = append(p.Code, push(1))
			expectRun(t, fmt.Sprint("7.5: one value too many behind ", c), p, env, none, api.ErrCode)
			p.Code = append(p.Code, plainly(api.CodeEq), plainly(api.CodeAdd))
			expectRun(t, fmt.Sprint("7.5: one value too few behind ", c), p, env, none, api.ErrCode)
		}
	}
}

// Promise 7.4: each instruction that works on the stack, at operands that part it from its neighbours.
func TestOnTheStack(t *testing.T) {
	for _, c := range []struct {
		code       api.Code
		a, b, want int64
	}{
		{api.CodeAdd, 7, -2, 5}, {api.CodeSub, 7, -2, 9}, {api.CodeSub, -2, 7, -9}, {api.CodeMul, 7, -2, -14}, {api.CodeDiv, 7, -2, -3}, {api.CodeDiv, -2, 7, 0}, {api.CodeMod, 7, -2, 1}, {api.CodeMod, -2, 7, -2},
		{api.CodeEq, 3, 3, 1}, {api.CodeEq, 3, 4, 0}, {api.CodeNe, 3, 3, 0}, {api.CodeNe, 3, 4, 1}, {api.CodeLt, 3, 4, 1}, {api.CodeLt, 3, 3, 0}, {api.CodeLt, 4, 3, 0}, {api.CodeLe, 3, 4, 1}, {api.CodeLe, 3, 3, 1}, {api.CodeLe, 4, 3, 0},
		{api.CodeGt, 3, 4, 0}, {api.CodeGt, 3, 3, 0}, {api.CodeGt, 4, 3, 1}, {api.CodeGe, 3, 4, 0}, {api.CodeGe, 3, 3, 1}, {api.CodeGe, 4, 3, 1},
		{api.CodeAnd, 5, 6, 1}, {api.CodeAnd, 5, 0, 0}, {api.CodeAnd, 0, 5, 0}, {api.CodeOr, 0, 0, 0}, {api.CodeOr, 0, -5, 1}, {api.CodeOr, 5, 0, 1},
	} {
		expectRun(t, "7.4", program(push(c.a), push(c.b), plainly(c.code)), api.Env{}, is(c.want), api.OK)
		// What lies under the operands stays.
		expectRun(t, "7.4", program(push(100), push(c.a), push(c.b), plainly(c.code), plainly(api.CodeSub)), api.Env{}, is(100-c.want), api.OK)
		for i, p := range []api.Program{
			program(append(slices.Clone(unknown), push(c.b), plainly(c.code))...), program(append([]api.Instr{push(c.a)}, append(slices.Clone(unknown), plainly(c.code))...)...),
		} {
			want := none
			if decides := [2]int64{c.b, c.a}[i]; c.code == api.CodeAnd && decides == 0 {
				want = is(0)
			} else if c.code == api.CodeOr && decides != 0 {
				want = is(1)
			}
			expectRun(t, "7.4: of an unknown", p, api.Env{}, want, api.OK)
		}
	}
	for _, c := range []struct {
		code api.Code
		a    int64
		want api.Val
	}{
		{api.CodeNeg, 5, is(-5)}, {api.CodeNeg, 0, is(0)}, {api.CodeNeg, math.MinInt64, none}, {api.CodeNot, 5, is(0)}, {api.CodeNot, 0, is(1)}, {api.CodeNot, -1, is(0)}, {api.CodePush, 5, none},
	} {
		if c.code == api.CodePush {
			expectRun(t, "7.4", program(push(c.a)), api.Env{}, is(c.a), api.OK)
			continue
		}
		expectRun(t, "7.4", program(push(c.a), plainly(c.code)), api.Env{}, c.want, api.OK)
		expectRun(t, "7.4: of an unknown", program(append(slices.Clone(unknown), plainly(c.code))...), api.Env{}, none, api.OK)
	}
}

// Promise 7.4: the jumps, by what lies on top; it stays there.
func TestTakenOrNot(t *testing.T) {
	for _, c := range []struct {
		code  api.Code
		top   []api.Instr
		v     api.Val
		taken bool
	}{
		{api.CodeIfNo, []api.Instr{push(0)}, is(0), true}, {api.CodeIfNo, []api.Instr{push(1)}, is(1), false}, {api.CodeIfNo, []api.Instr{push(-5)}, is(-5), false}, {api.CodeIfNo, unknown, none, false},
		{api.CodeIfYes, []api.Instr{push(0)}, is(0), false}, {api.CodeIfYes, []api.Instr{push(1)}, is(1), true}, {api.CodeIfYes, []api.Instr{push(-5)}, is(-5), true}, {api.CodeIfYes, unknown, none, false},
	} {
		at := len(c.top)
		jump := func(to int, rest ...api.Instr) api.Program {
			return program(slices.Concat(c.top, []api.Instr{{Code: c.code, To: to, Item: -1, Col: -1, N: 9}}, rest)...)
		}
		end := at + 4
		rest := []api.Instr{push(70), plainly(api.CodeMul), plainly(api.CodeNeg)}
		// Over two instructions, over all three, and over none.
		over2, over3, over0 := c.v, c.v, c.v
		if over2.Known {
			over2.N = -over2.N * 70
			over0 = over2
		}
		if c.taken && c.v.Known {
			over2.N = -c.v.N
		} else {
			over3 = over0
		}
		expectRun(t, "7.4: a jump", jump(at+3, rest...), api.Env{}, over2, api.OK)
		expectRun(t, "7.4: a jump to the end", jump(end, rest...), api.Env{}, over3, api.OK)
		expectRun(t, "7.4: a jump to the next one", jump(at+1, rest...), api.Env{}, over0, api.OK)
		expectRun(t, "7.4: a jump at the end", jump(at+1), api.Env{}, c.v, api.OK)
		for _, to := range []int{math.MinInt, -1, 0, at - 1, at, end + 1, end + 2, math.MaxInt} {
			expectRun(t, fmt.Sprint("7.5: To ", to), jump(to, rest...), api.Env{}, none, api.ErrCode)
		}
		expectRun(t, "7.5: To behind the end", jump(at+2), api.Env{}, none, api.ErrCode)
	}
}

// Promise 7.5: a Code that there is none of, and a column that there is none of; not if they are not come to.
func TestNoSuchInstruction(t *testing.T) {
	env := api.Env{Lists: told(), Each: 1}
	two := [][]int{{0, 0}, {1, 0}}
	var bad []api.Instr
	for _, c := range []int{math.MinInt, -26, -1, 0, 27, 28, 99, 1 << 32, 1<<32 + 1, math.MaxInt} {
		bad = append(bad, api.Instr{Code: api.Code(c)})
	}
	for _, c := range []api.Code{api.CodeLoad, api.CodePrev, api.CodeSum, api.CodeMin, api.CodeMax, api.CodeFirst, api.CodeLast} {
		for _, col := range []int{math.MinInt, -2, -1, 2, 3, math.MaxInt} {
			for _, item := range []int{-1, 0, 1, 2} {
				bad = append(bad, of(c, item, col))
			}
		}
		for col := range two {
			if _, e := code.Run(api.Program{Code: []api.Instr{of(c, 1, col)}, Cols: two}, env); e != api.OK {
				t.Errorf("7.5: %d with the column %d: %d", c, col, e)
			}
		}
		expectRun(t, "7.5: no columns", program(of(c, 0, 0)), env, none, api.ErrCode)
	}
	for _, in := range bad {
		for _, list := range [][]api.Instr{
			{in}, {push(1), in}, {push(1), push(1), in, plainly(api.CodeAdd)}, {push(0), push(1), ifNo(4), plainly(api.CodeAdd), in}, {push(0), ifYes(3), in}, {push(1), ifNo(3), in},
		} {
			expectRun(t, "7.5: come to", api.Program{Code: list, Cols: two}, env, none, api.ErrCode)
		}
		expectRun(t, "7.5: not come to", api.Program{Code: []api.Instr{push(0), ifNo(3), in}, Cols: two}, env, is(0), api.OK)
		expectRun(t, "7.5: not come to", api.Program{Code: []api.Instr{push(5), ifYes(5), in, in, in, plainly(api.CodeNeg)}, Cols: two}, env, is(-5), api.OK)
	}
	// Neither is a jump looked at, or too few operands, where the machine does not come.
	for _, in := range []api.Instr{ifNo(0), ifYes(99), plainly(api.CodeAdd), push(1)} {
		expectRun(t, "7.5: not come to", program(push(0), ifNo(3), in), env, is(0), api.OK)
	}
}

// Promise 7.5: the end with none, one and more values.
func TestTheEnd(t *testing.T) {
	for values := range 40 {
		p := program(slices.Repeat([]api.Instr{push(3)}, values)...)
		if values == 1 {
			expectRun(t, "7.5: one value at the end", p, api.Env{}, is(3), api.OK)
			continue
		}
		expectRun(t, "7.5: values at the end", p, api.Env{}, none, api.ErrCode)
		p.Code = append(p.Code, slices.Repeat([]api.Instr{plainly(api.CodeAdd)}, max(values-1, 0))...)
		if values > 0 {
			expectRun(t, "7.4: many values", p, api.Env{}, is(3*int64(values)), api.OK)
		}
	}
	expectRun(t, "7.5: nothing", api.Program{Cols: [][]int{{0}}}, api.Env{Lists: told()}, none, api.ErrCode)
	expectRun(t, "7.4: an unknown value at the end", program(unknown...), api.Env{}, none, api.OK)
}

// Promise 7.4: what a column says of an event, by its entry and the event's type.
func TestWhatAColumnSays(t *testing.T) {
	e := made(1, 5, 10, 11, 12, 13, 14, 15, 16, 17)
	reading := []api.Code{api.CodeLoad, api.CodeSum, api.CodeMin, api.CodeMax, api.CodeFirst, api.CodeLast}
	says := func(column []int, typ int, want api.Val) {
		t.Helper()
		e.Type = typ
		env := api.Env{Lists: [][]api.Event{{e}}, Each: 0}
		for _, c := range reading {
			expectRun(t, fmt.Sprint("7.4: type ", typ), with(program(plainly(c)), column), env, want, api.OK)
		}
		env.At = 1
		expectRun(t, fmt.Sprint("7.4: type ", typ), with(program(plainly(api.CodePrev)), column), env, want, api.OK)
	}
	for place := range 8 {
		says([]int{9, place, 9}, 1, is(int64(10+place)))
		says([]int{place}, 0, is(int64(10+place)))
	}
	says([]int{9, api.ColTs}, 1, is(5))
	for _, entry := range []int{math.MinInt, -4, -3, api.ColNone, 8, 9, math.MaxInt} {
		says([]int{0, entry, 0}, 1, none)
	}
	for _, typ := range []int{math.MinInt, -2, -1, 2, 3, math.MaxInt} {
		says([]int{0, api.ColTs}, typ, none)
		says([]int{api.ColTs, 0}, typ, none)
	}
	says(nil, 0, none)
	says([]int{}, 1, none)
	says(nil, -1, none)
}

// Promise 7.4: lists that there are none of, and a negative item that is not gone through.
func TestItemsWithoutLists(t *testing.T) {
	for _, item := range []int{math.MinInt, -5, -2, -1, 2, 3, math.MaxInt} {
		for _, each := range []int{item, -1, 0, 1} {
			for _, at := range []int{-1, 0, 1} {
				env := api.Env{Lists: told(), Each: each, At: at}
				for _, r := range readers {
					want := none
					if r.op == api.OpCount || r.op == api.OpSum {
						want = is(0)
					}
					expectRun(t, fmt.Sprint("7.4: item ", item), with(program(of(r.code, item, 0)), []int{0, 0}), env, want, api.OK)
				}
			}
		}
	}
}

// Promise 7.4: fields that an instruction has no use for do not count.
func TestFieldsWithoutUse(t *testing.T) {
	env := api.Env{Lists: told(), Each: -1}
	odd := func(in api.Instr) api.Instr {
		o := api.Instr{Code: in.Code, Item: -7, Col: -7, N: -7, To: -7}
		switch {
		case in.Code == api.CodePush:
			o.N = in.N
		case in.Code == api.CodeCount:
			o.Item = in.Item
		case in.Code <= api.CodeLast:
			o.Item, o.Col = in.Item, in.Col
		case in.Code >= api.CodeIfNo:
			o.To = in.To
		}
		return o
	}
	for _, text := range append(slices.Concat(truths, numbers), "- SUM(b.k) + a.x * 2 - LAST(b.ts) / 3 % 4 < COUNT(b) AND (a.k = 9 OR NOT (b.k != 4))", "PREV(b.k) >= 1 OR FIRST(a.k) <= 8 OR MIN(a.k) > 9 AND MAX(a.k) = 9") {
		p := programOf(text)
		want, _ := code.Run(p, env)
		for i := range p.Code {
			p.Code[i] = odd(p.Code[i])
		}
		expectRun(t, "7.4: "+text, p, env, want, api.OK)
	}
}

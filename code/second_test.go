package code_test

import (
	"slices"
	"testing"

	"sluice/api"
	"sluice/code"
	"sluice/num"
	"sluice/show"
)

// What trees come to, a compiler and a machine once more: over expressions that are trees of their own, with what each operator and each instruction does written out one by one.

// term: an expression, whose operands are its parts.
type term struct {
	op      api.Op
	n       int64
	v, attr string
	parts   []term
}

func join(op api.Op, parts ...term) term { return term{op: op, parts: parts} }

// nodes: the term's nodes in post order.
func nodes(x term) []api.Node {
	out, _ := behind(nil, x)
	return out
}

// behind: the list with the term's nodes behind it, and the place of its root.
func behind(list []api.Node, x term) ([]api.Node, int) {
	n := api.Node{Op: x.op, N: x.n, Var: x.v, Attr: x.attr, A: -1, B: -1}
	if len(x.parts) > 0 {
		list, n.A = behind(list, x.parts[0])
	}
	if len(x.parts) > 1 {
		list, n.B = behind(list, x.parts[1])
	}
	return append(list, n), len(list)
}

type binary func(a, b api.Val) api.Val

func comparing(op api.Op) binary {
	return func(a, b api.Val) api.Val { return num.Compare(op, a, b) }
}

// operator: an operator with its instruction, and what it does with two values.
type operator struct {
	op     api.Op
	code   api.Code
	apply  binary
	truths bool // its operands are truths
	truth  bool // it is one itself
}

var operators = []operator{
	{api.OpAdd, api.CodeAdd, num.Add, false, false}, {api.OpSub, api.CodeSub, num.Sub, false, false}, {api.OpMul, api.CodeMul, num.Mul, false, false},
	{api.OpDiv, api.CodeDiv, num.Div, false, false}, {api.OpMod, api.CodeMod, num.Mod, false, false},
	{api.OpEq, api.CodeEq, comparing(api.OpEq), false, true}, {api.OpNe, api.CodeNe, comparing(api.OpNe), false, true}, {api.OpLt, api.CodeLt, comparing(api.OpLt), false, true},
	{api.OpLe, api.CodeLe, comparing(api.OpLe), false, true}, {api.OpGt, api.CodeGt, comparing(api.OpGt), false, true}, {api.OpGe, api.CodeGe, comparing(api.OpGe), false, true},
	{api.OpAnd, api.CodeAnd, num.And, true, true}, {api.OpOr, api.CodeOr, num.Or, true, true},
}

// reader: an operator that mentions a variable, with its instruction.
type reader struct {
	op   api.Op
	code api.Code
	word string // what stands ahead of the bracket
}

var readers = []reader{
	{api.OpAttr, api.CodeLoad, ""}, {api.OpPrev, api.CodePrev, "PREV"}, {api.OpCount, api.CodeCount, "COUNT"}, {api.OpSum, api.CodeSum, "SUM"},
	{api.OpMin, api.CodeMin, "MIN"}, {api.OpMax, api.CodeMax, "MAX"}, {api.OpFirst, api.CodeFirst, "FIRST"}, {api.OpLast, api.CodeLast, "LAST"},
}

// find: the first of a list that is so, if there is one.
func find[T any](list []T, is func(T) bool) (x T, there bool) {
	for _, y := range list {
		if is(y) {
			return y, true
		}
	}
	return
}

func (x term) operator() (operator, bool) {
	return find(operators, func(o operator) bool { return o.op == x.op })
}

func (x term) reader() (reader, bool) {
	return find(readers, func(r reader) bool { return r.op == x.op })
}

func (x term) truth() bool {
	o, _ := x.operator()
	return x.op == api.OpTrue || x.op == api.OpFalse || x.op == api.OpNot || o.truth
}

// item: the number of a variable's item, -1 if it has none.
func item(q api.Query, v string) int {
	return slices.IndexFunc(q.Items, func(i api.Item) bool { return i.Var == v })
}

// runnable: are the variables items' and do the kinds fit?
func (x term) runnable(q api.Query) bool {
	o, _ := x.operator()
	for _, p := range x.parts {
		if !p.runnable(q) || p.truth() != (o.truths || x.op == api.OpNot) {
			return false
		}
	}
	_, reads := x.reader()
	return !reads || item(q, x.v) >= 0
}

// said: an attribute of an event, by its name.
func said(s api.Schema, attr string) func(api.Event) api.Val {
	return func(e api.Event) api.Val {
		if e.Type < 0 || e.Type >= len(s.Types) {
			return none
		}
		if attr == "ts" {
			return is(e.Ts)
		}
		if i := slices.Index(s.Types[e.Type].Attrs, attr); i >= 0 && i <= 7 {
			return is(e.Attrs[i])
		}
		return none
	}
}

// inColumn: an attribute of an event, by a column.
func inColumn(column []int) func(api.Event) api.Val {
	return func(e api.Event) api.Val {
		for typ, place := range column {
			switch {
			case typ != e.Type:
			case place == api.ColTs:
				return is(e.Ts)
			default:
				for i, n := range e.Attrs {
					if i == place {
						return is(n)
					}
				}
			}
		}
		return none
	}
}

// mentioned: what an operator reads of an item's list.
func mentioned(op api.Op, env api.Env, item int, read func(api.Event) api.Val) api.Val {
	var list []api.Event
	for i, l := range env.Lists {
		if i == item {
			list = l
		}
	}
	if op == api.OpCount {
		return is(int64(len(list)))
	}
	wanted := 0
	if env.Each >= 0 && env.Each == item {
		wanted = env.At
	} else if op == api.OpPrev {
		return none
	}
	numbers := []int64{}
	for i, e := range list {
		v := read(e)
		if op == api.OpAttr && i == wanted || op == api.OpPrev && i+1 == wanted {
			return v
		}
		if op != api.OpAttr && op != api.OpPrev && !v.Known {
			return none
		}
		numbers = append(numbers, v.N)
	}
	if op == api.OpAttr || op == api.OpPrev {
		return none
	}
	return num.Fold(op, numbers)
}

// value: what a runnable term comes to.
func (x term) value(s api.Schema, q api.Query, env api.Env) api.Val {
	if o, two := x.operator(); two {
		return o.apply(x.parts[0].value(s, q, env), x.parts[1].value(s, q, env))
	}
	switch x.op {
	case api.OpNum:
		return is(x.n)
	case api.OpTrue:
		return is(1)
	case api.OpFalse:
		return is(0)
	case api.OpNeg:
		return num.Neg(x.parts[0].value(s, q, env))
	case api.OpNot:
		return num.Not(x.parts[0].value(s, q, env))
	}
	return mentioned(x.op, env, item(q, x.v), said(s, x.attr))
}

// names: the attributes that a term mentions, in the order of its nodes, none twice.
func (x term) names() []string {
	var out []string
	for _, n := range nodes(x) {
		if n.Attr != "" && !slices.Contains(out, n.Attr) {
			out = append(out, n.Attr)
		}
	}
	return out
}

// instrs: a term's instructions, from a place on.
func (x term) instrs(q api.Query, names []string, first int) []api.Instr {
	if o, two := x.operator(); two {
		left := x.parts[0].instrs(q, names, first)
		if !o.truths {
			return append(append(left, x.parts[1].instrs(q, names, first+len(left))...), plainly(o.code))
		}
		right := x.parts[1].instrs(q, names, first+len(left)+1)
		end := first + len(left) + 1 + len(right) + 1
		jump := map[api.Op]api.Instr{api.OpAnd: ifNo(end), api.OpOr: ifYes(end)}[x.op]
		return slices.Concat(left, []api.Instr{jump}, right, []api.Instr{plainly(o.code)})
	}
	if r, reads := x.reader(); reads {
		return []api.Instr{of(r.code, item(q, x.v), max(slices.Index(names, x.attr), 0))}
	}
	switch x.op {
	case api.OpNeg:
		return append(x.parts[0].instrs(q, names, first), plainly(api.CodeNeg))
	case api.OpNot:
		return append(x.parts[0].instrs(q, names, first), plainly(api.CodeNot))
	case api.OpTrue:
		return []api.Instr{push(1)}
	}
	return []api.Instr{push(x.n)}
}

// program: a runnable term's.
func (x term) program(s api.Schema, q api.Query) api.Program {
	names := x.names()
	p := api.Program{Code: x.instrs(q, names, 0)}
	for _, name := range names {
		var column []int
		for _, t := range s.Types {
			place := slices.Index(t.Attrs, name)
			if place > 7 {
				place = api.ColNone
			}
			if name == "ts" {
				place = api.ColTs
			}
			column = append(column, place)
		}
		p.Cols = append(p.Cols, column)
	}
	return p
}

// cell: a value on a stack, and what lies under it.
type cell struct {
	api.Val
	under *cell
}

func (c *cell) depth() int {
	if c == nil {
		return 0
	}
	return 1 + c.under.depth()
}

// run: what a program comes to from a place on; if it is refused, why.
func run(p api.Program, env api.Env, at int, top *cell) (api.Val, string) {
	if at == len(p.Code) {
		if top.depth() != 1 {
			return none, "not one value"
		}
		return top.Val, ""
	}
	in := p.Code[at]
	next := func(v api.Val, under *cell) (api.Val, string) { return run(p, env, at+1, &cell{v, under}) }
	if o, two := find(operators, func(o operator) bool { return o.code == in.Code }); two {
		if top.depth() < 2 {
			return none, "no two operands"
		}
		return next(o.apply(top.under.Val, top.Val), top.under.under)
	}
	if r, reads := find(readers, func(r reader) bool { return r.code == in.Code }); reads {
		if in.Code == api.CodeCount {
			return next(mentioned(r.op, env, in.Item, nil), top)
		}
		if in.Col < 0 || in.Col >= len(p.Cols) {
			return none, "no column"
		}
		return next(mentioned(r.op, env, in.Item, inColumn(p.Cols[in.Col])), top)
	}
	if in.Code == api.CodePush {
		return next(is(in.N), top)
	}
	if !slices.Contains([]api.Code{api.CodeNeg, api.CodeNot, api.CodeIfNo, api.CodeIfYes}, in.Code) {
		return none, "no code"
	}
	if top.depth() < 1 {
		return none, "no operand"
	}
	switch in.Code {
	case api.CodeNeg:
		return next(num.Neg(top.Val), top.under)
	case api.CodeNot:
		return next(num.Not(top.Val), top.under)
	}
	if in.To <= at {
		return none, "back"
	}
	if in.To > len(p.Code) {
		return none, "behind the end"
	}
	if top.Val == is(0) && in.Code == api.CodeIfNo || top.Known && top.N != 0 && in.Code == api.CodeIfYes {
		return run(p, env, in.To, top)
	}
	return run(p, env, at+1, top)
}

// Promises 7.1, 7.2, 7.3 and 7.6 against the second ones.
func TestAgainstTheSecondCompiler(t *testing.T) {
	pick := scatter(1)
	count := map[string]int{}
	for range 30000 {
		g := grower{pick: pick, odd: []int{1000, 60, 20, 6}[pick(4)]}
		s, q, x := g.schema(), g.query(), g.tree()
		tree := nodes(x)
		if !show.Tree(tree) {
			t.Fatalf("not well shaped: %+v", tree)
		}
		p := code.Compile(s, q, tree)
		if !x.runnable(q) {
			count["not runnable"]++
			if v := code.Eval(s, q, tree, g.env(len(s.Types), len(q.Items))); v != none || !same(p, api.Program{}) {
				t.Fatalf("7.1, 7.2: not runnable: %+v, %+v: %v, %+v", q.Items, tree, v, p)
			}
			continue
		}
		if want := x.program(s, q); !same(p, want) {
			t.Fatalf("7.2, 7.3: %+v, %+v, %+v: %+v, want %+v", s, q.Items, tree, p, want)
		}
		for range 4 {
			env := g.env(len(s.Types), len(q.Items))
			want := x.value(s, q, env)
			if got := code.Eval(s, q, tree, env); got != want {
				t.Fatalf("7.1: %+v, %+v, %+v, %+v: %v, want %v", s, q.Items, tree, env, got, want)
			}
			if got, e := code.Run(p, env); got != want || e != api.OK {
				t.Fatalf("7.6: %+v, %+v: %v, %d, want %v", p, env, got, e, want)
			}
			kind := "a number"
			if !want.Known {
				kind = "unknown"
			} else if x.truth() {
				kind = map[int64]string{1: "true", 0: "false"}[want.N]
			}
			count[kind]++
		}
	}
	for _, kind := range []string{"not runnable", "a number", "unknown", "true", "false"} {
		if count[kind] < 2000 {
			t.Errorf("%s comes up %d times: too seldom", kind, count[kind])
		}
	}
}

// spoilt: a program in which one thing is another one.
func spoilt(g grower, p api.Program) api.Program {
	p.Code, p.Cols = slices.Clone(p.Code), slices.Clone(p.Cols)
	in := &p.Code[g.pick(len(p.Code))]
	switch g.pick(8) {
	case 0:
		in.Code = api.Code(g.number(29))
	case 1:
		in.Item = g.number(6)
	case 2:
		in.Col = g.number(6)
	case 3:
		in.N = int64(g.number(3))
	case 4, 5:
		in.To = g.number(len(p.Code) + 2)
	case 6:
		p.Code = p.Code[:g.pick(len(p.Code))]
	case 7:
		if len(p.Cols) > 0 {
			p.Cols[g.pick(len(p.Cols))] = g.column(4)
		}
	}
	return p
}

// Promises 7.4, 7.5 and 7.7 against the second machine: programs that fit and that do not, and those of trees with something spoilt.
func TestAgainstTheSecondMachine(t *testing.T) {
	pick := scatter(2)
	count := map[string]int{}
	for range 100000 {
		g := grower{pick: pick, odd: []int{1000, 60, 20, 6}[pick(4)]}
		p := g.program(4, 4)
		if s, q, x := g.schema(), g.query(), g.tree(); g.pick(3) == 0 && x.runnable(q) {
			p = spoilt(g, x.program(s, q))
		}
		env := g.env(4, 4)
		v, why := run(p, env, 0, nil)
		want := api.OK
		if why != "" {
			want = api.ErrCode
		}
		count[why]++
		if got, e := code.Run(p, env); got != v || e != want {
			t.Fatalf("7.4, 7.5: %+v, %+v: %v, %d, want %v, %d: %s", p, env, got, e, v, want, why)
		}
		if got := code.Holds(p, env); got != (why == "" && v.Known && v.N != 0) {
			t.Fatalf("7.7: %+v, %+v: %v", p, env, got)
		}
	}
	for _, why := range []string{"", "not one value", "no operand", "no two operands", "no column", "no code", "back", "behind the end"} {
		if count[why] < 500 {
			t.Errorf("%q comes up %d times: too seldom", why, count[why])
		}
	}
}

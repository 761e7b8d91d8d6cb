package code

import (
	"sluice/api"
	"sluice/event"
)

// compiler: a program while it is made of a runnable tree.
type compiler struct {
	schema  api.Schema
	items   map[string]int
	columns map[string]int // by attribute name the number of its column
	program api.Program
	open    []int // the places of the jumps whose CodeAnd or CodeOr has not come yet
}

// tree writes the instructions of a tree. They stand in the order of its nodes, but for the jumps.
func (c *compiler) tree(t []api.Node) {
	behind := jumpsOf(t)
	for at, n := range t {
		c.node(n)
		if behind[at] != 0 {
			c.jump(behind[at])
		}
	}
}

// jumpsOf: by node the jump that stands behind its instructions: a left operand of AND or OR has one, 0 stands for none.
func jumpsOf(t []api.Node) []api.Code {
	out := make([]api.Code, len(t))
	for _, n := range t {
		switch n.Op {
		case api.OpAnd:
			out[n.A] = api.CodeIfNo
		case api.OpOr:
			out[n.A] = api.CodeIfYes
		}
	}
	return out
}

// node writes the instruction of a node, whose operands' are written.
func (c *compiler) node(n api.Node) {
	in := api.Instr{Code: codeOf(n.Op), N: literal(n)}
	if isMention(n.Op) {
		in.Item = c.items[n.Var]
		if n.Op != api.OpCount {
			in.Col = c.column(n.Attr)
		}
	}
	c.write(in)
	if n.Op == api.OpAnd || n.Op == api.OpOr {
		c.land()
	}
}

func (c *compiler) write(in api.Instr) { c.program.Code = append(c.program.Code, in) }

// jump writes a jump whose end is not known yet.
func (c *compiler) jump(code api.Code) {
	c.open = append(c.open, len(c.program.Code))
	c.write(api.Instr{Code: code})
}

// land: the last jump that is open ends here: those of the operands have ended within them.
func (c *compiler) land() {
	last := len(c.open) - 1
	c.program.Code[c.open[last]].To = len(c.program.Code)
	c.open = c.open[:last]
}

// column: the number of an attribute's column, which is made when its name comes up first.
func (c *compiler) column(attr string) int {
	number, there := c.columns[attr]
	if there {
		return number
	}
	number = len(c.columns)
	c.columns[attr] = number
	byType := make([]int, len(c.schema.Types))
	for typ := range byType {
		byType[typ] = event.AttrOf(c.schema, typ, attr)
	}
	c.program.Cols = append(c.program.Cols, byType)
	return number
}

// codeOf: the instruction of an operator. The aggregates, and those with operands, stand in one order in both lists.
func codeOf(op api.Op) api.Code {
	switch {
	case op < api.OpAttr:
		return api.CodePush
	case op == api.OpAttr:
		return api.CodeLoad
	case op == api.OpPrev:
		return api.CodePrev
	case op < api.OpPrev:
		return api.CodeCount + api.Code(op-api.OpCount)
	}
	return api.CodeNeg + api.Code(op-api.OpNeg)
}

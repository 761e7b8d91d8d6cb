package code_test

import (
	"slices"
	"testing"

	"sluice/api"
	"sluice/code"
)

func expectProgram(t *testing.T, text string, want api.Program) {
	t.Helper()
	if got := programOf(text); !same(got, want) {
		t.Errorf("7.2, 7.3: %s: %+v, want %+v", text, got, want)
	}
}

// Promise 7.2: the instruction of each kind of node, with the fields that it has no use for 0.
func TestInstructions(t *testing.T) {
	k := []int{1, 0}
	for _, r := range readers {
		for number, v := range []string{"a", "b"} {
			if r.op == api.OpCount {
				expectProgram(t, r.text(v, "k"), program(count(number)))
				expectProgram(t, "b.k - "+r.text(v, "k"), with(program(load(1, 0), count(number), plainly(api.CodeSub)), k))
				continue
			}
			expectProgram(t, r.text(v, "k"), with(program(of(r.code, number, 0)), k))
			expectProgram(t, "a.x * "+r.text(v, "k"), api.Program{Code: []api.Instr{load(0, 0), of(r.code, number, 1), plainly(api.CodeMul)}, Cols: [][]int{{0, api.ColNone}, k}})
		}
	}
	for word, c := range map[string]api.Code{
		"+": api.CodeAdd, "-": api.CodeSub, "*": api.CodeMul, "/": api.CodeDiv, "%": api.CodeMod,
		"=": api.CodeEq, "!=": api.CodeNe, "<": api.CodeLt, "<=": api.CodeLe, ">": api.CodeGt, ">=": api.CodeGe,
	} {
		expectProgram(t, "7 "+word+" 8", program(push(7), push(8), plainly(c)))
	}
	for text, want := range map[string]api.Program{
		"0": program(push(0)), "9223372036854775807": program(push(1<<63 - 1)), "TRUE": program(push(1)), "FALSE": program(push(0)),
		"- 5": program(push(5), plainly(api.CodeNeg)), "- - 5": program(push(5), plainly(api.CodeNeg), plainly(api.CodeNeg)),
		"NOT FALSE":       program(push(0), plainly(api.CodeNot)),
		"1 - (2 - 3)":     program(push(1), push(2), push(3), plainly(api.CodeSub), plainly(api.CodeSub)),
		"1 - 2 - 3":       program(push(1), push(2), plainly(api.CodeSub), push(3), plainly(api.CodeSub)),
		"TRUE AND FALSE":  program(push(1), ifNo(4), push(0), plainly(api.CodeAnd)),
		"TRUE OR FALSE":   program(push(1), ifYes(4), push(0), plainly(api.CodeOr)),
		"NOT (1 < 2 * 3)": program(push(1), push(2), push(3), plainly(api.CodeMul), plainly(api.CodeLt), plainly(api.CodeNot)),
	} {
		expectProgram(t, text, want)
	}
}

// Promise 7.2: AND and OR within each other, to the left, to the right and in both, with something ahead of them and around them.
func TestJumps(t *testing.T) {
	and, or, not := plainly(api.CodeAnd), plainly(api.CodeOr), plainly(api.CodeNot)
	for text, want := range map[string]api.Program{
		"TRUE AND TRUE AND FALSE":                         program(push(1), ifNo(4), push(1), and, ifNo(7), push(0), and),
		"TRUE AND (TRUE AND FALSE)":                       program(push(1), ifNo(7), push(1), ifNo(6), push(0), and, and),
		"TRUE OR TRUE OR FALSE":                           program(push(1), ifYes(4), push(1), or, ifYes(7), push(0), or),
		"TRUE OR (TRUE OR FALSE)":                         program(push(1), ifYes(7), push(1), ifYes(6), push(0), or, or),
		"TRUE AND FALSE OR TRUE":                          program(push(1), ifNo(4), push(0), and, ifYes(7), push(1), or),
		"TRUE OR FALSE AND TRUE":                          program(push(1), ifYes(7), push(0), ifNo(6), push(1), and, or),
		"(TRUE OR FALSE) AND TRUE":                        program(push(1), ifYes(4), push(0), or, ifNo(7), push(1), and),
		"TRUE AND (FALSE OR TRUE)":                        program(push(1), ifNo(7), push(0), ifYes(6), push(1), or, and),
		"(TRUE OR FALSE) AND (FALSE OR TRUE)":             program(push(1), ifYes(4), push(0), or, ifNo(10), push(0), ifYes(9), push(1), or, and),
		"TRUE AND FALSE OR FALSE AND TRUE":                program(push(1), ifNo(4), push(0), and, ifYes(10), push(0), ifNo(9), push(1), and, or),
		"NOT (TRUE AND FALSE)":                            program(push(1), ifNo(4), push(0), and, not),
		"NOT TRUE AND NOT FALSE":                          program(push(1), not, ifNo(6), push(0), not, and),
		"NOT (TRUE OR NOT (FALSE AND TRUE))":              program(push(1), ifYes(8), push(0), ifNo(6), push(1), and, not, or, not),
		"1 = 2 AND (3 = 4 OR (5 = 6 AND 7 = 8)) OR FALSE": program(push(1), push(2), plainly(api.CodeEq), ifNo(18), push(3), push(4), plainly(api.CodeEq), ifYes(17), push(5), push(6), plainly(api.CodeEq), ifNo(16), push(7), push(8), plainly(api.CodeEq), and, or, and, ifYes(21), push(0), or),
	} {
		expectProgram(t, text, want)
	}
}

// Promise 7.3: one column a name, in the order in which the names come up in the list of nodes.
func TestColumns(t *testing.T) {
	x, k, ts, z := []int{0, api.ColNone}, []int{1, 0}, []int{api.ColTs, api.ColTs}, []int{api.ColNone, api.ColNone}
	for _, c := range []struct {
		text    string
		columns [][]int
		cols    []int // of the instructions that have one
	}{
		{"1 = 1", nil, nil}, {"COUNT(a) = COUNT(b)", nil, nil},
		{"a.x = a.x", [][]int{x}, []int{0, 0}}, {"a.k = b.k", [][]int{k}, []int{0, 0}}, {"b.k = a.k", [][]int{k}, []int{0, 0}},
		{"a.x = a.k", [][]int{x, k}, []int{0, 1}}, {"a.k = a.x", [][]int{k, x}, []int{0, 1}},
		{"a.x + a.k * a.ts", [][]int{x, k, ts}, []int{0, 1, 2}}, {"a.ts * (a.k + a.x)", [][]int{ts, k, x}, []int{0, 1, 2}},
		{"SUM(b.ts) + b.k + PREV(b.ts) + MAX(a.x) + b.z + MIN(b.k) + FIRST(b.z) + LAST(a.ts)", [][]int{ts, k, x, z}, []int{0, 1, 0, 2, 3, 1, 3, 0}},
		{"COUNT(a) + b.z + COUNT(b) + a.X + a.x", [][]int{z, z, x}, []int{0, 1, 2}},
		{"FALSE AND a.k = 1 OR a.x = 1 AND a.k = 1", [][]int{k, x}, []int{0, 1, 0}},
	} {
		p := programOf(c.text)
		var cols []int
		for _, in := range p.Code {
			if r, reads := find(readers, func(r reader) bool { return r.code == in.Code }); reads && r.op != api.OpCount {
				cols = append(cols, in.Col)
			} else if in.Col != 0 {
				t.Errorf("7.2: %s: %+v has a column", c.text, in)
			}
		}
		if !same(api.Program{Cols: p.Cols}, api.Program{Cols: c.columns}) || !slices.Equal(cols, c.cols) {
			t.Errorf("7.3: %s: %v, %v, want %v, %v", c.text, p.Cols, cols, c.columns, c.cols)
		}
	}
}

// Promise 7.3: an entry for each type of the schema, be it one or not.
func TestColumnsOfAnySchema(t *testing.T) {
	many := slices.Repeat([]api.TypeDef{{Name: "A", Attrs: []string{"x"}}}, 40)
	many[17].Attrs = []string{"k", "x", "x", "ts"}
	many[18].Attrs = []string{"1", "2", "3", "4", "5", "6", "7", "8", "x"}
	many[19].Attrs = []string{"1", "2", "3", "4", "5", "6", "7", "x"}
	places, times := slices.Repeat([]int{0}, 40), slices.Repeat([]int{api.ColTs}, 40)
	places[17], places[18], places[19] = 1, api.ColNone, 7
	for _, c := range []struct {
		s    api.Schema
		want [][]int
	}{
		{api.Schema{}, [][]int{{}, {}}}, {api.Schema{Types: many}, [][]int{places, times}},
		{schemaOf("type ts() type B(k, x, y)"), [][]int{{api.ColNone, 1}, {api.ColTs, api.ColTs}}},
	} {
		if p := code.Compile(c.s, queryOf(pair), treeOf("a.x = b.ts")); !same(p, api.Program{Code: []api.Instr{load(0, 0), load(1, 1), plainly(api.CodeEq)}, Cols: c.want}) {
			t.Errorf("7.3: %+v", p)
		}
	}
}

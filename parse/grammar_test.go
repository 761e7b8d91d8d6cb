package parse_test

import (
	"regexp"
	"slices"
	"strings"
	"testing"

	"sluice/api"
	"sluice/lex"
)

// grammar: as the chapter writes it.
const grammar = `
query = PATTERN SEQ "(" item { "," item } ")" [ USING mode ] [ AFTER skip ] [ WHERE expr ]
        WITHIN number [ PARTITION BY name ] [ RETURN expr { "," expr } ]
item  = "!" types name
      | types "+" name
      | types name [ "{" number "," number "}" ]
types = name | "(" name { "|" name } ")"
mode  = ANY | NEXT | STRICT
skip  = ALL | NEXT | PAST | ONCE
expr  = and { OR and }
and   = not { AND not }
not   = NOT not | comp
comp  = sum [ ( "=" | "!=" | "<" | "<=" | ">" | ">=" ) sum ]
sum   = term { ( "+" | "-" ) term }
term  = minus { ( "*" | "/" | "%" ) minus }
minus = "-" minus | atom
atom  = number | TRUE | FALSE | "(" expr ")" | name "." name | COUNT "(" name ")"
      | ( SUM | MIN | MAX | FIRST | LAST | PREV ) "(" name "." name ")"
`

// part: a piece of the grammar. Word: a token's, or a rule's name; else a choice of rows, of which one may be empty (maybe) and which may come again (again).
type part struct {
	word         string
	rows         [][]*part
	maybe, again bool
}

// rules: the grammar's, read from its text.
func rules() map[string]*part {
	words := regexp.MustCompile(`"[^"]+"|\w+|[^\s\w]`).FindAllString(grammar, -1)
	out := map[string]*part{}
	for len(words) > 0 {
		name := words[0]
		words = words[2:]
		end := 0
		for end < len(words) && (end+1 == len(words) || words[end+1] != "=") {
			end++
		}
		body := words[:end]
		out[name] = &part{rows: choice(&body)}
		words = words[end:]
	}
	return out
}

// choice: rows with bars between, up to the mark that closes them.
func choice(words *[]string) [][]*part {
	rows := [][]*part{nil}
	for len(*words) > 0 {
		w := (*words)[0]
		*words = (*words)[1:]
		last := &rows[len(rows)-1]
		switch w {
		case ")", "]", "}":
			return rows
		case "|":
			rows = append(rows, nil)
		case "(", "[", "{":
			*last = append(*last, &part{rows: choice(words), maybe: w != "(", again: w == "{"})
		default:
			*last = append(*last, &part{word: strings.Trim(w, `"`)})
		}
	}
	return rows
}

// left: what is still to come, from one piece of the grammar on.
type left struct {
	part *part
	rest *left
}

// walker: all ways of deriving what it has been shown, at once.
type walker struct {
	rules map[string]*part
	ways  []*left // each waits for a token; nil: nothing is left
}

func walk(rules map[string]*part, rule string) *walker {
	w := &walker{rules: rules}
	w.unfold(&left{part: &part{word: rule}})
	return w
}

// unfold goes on until a token is waited for.
func (w *walker) unfold(l *left) {
	switch {
	case l == nil:
		w.ways = append(w.ways, nil)
	case l.part.word != "" && w.rules[l.part.word] != nil:
		w.unfold(&left{w.rules[l.part.word], l.rest})
	case l.part.word != "":
		w.ways = append(w.ways, l)
	default:
		if l.part.maybe {
			w.unfold(l.rest)
		}
		for _, row := range l.part.rows {
			rest := l.rest
			if l.part.again {
				rest = l
			}
			for _, p := range slices.Backward(row) {
				rest = &left{p, rest}
			}
			w.unfold(rest)
		}
	}
}

// wordOf: how the grammar calls a token.
func wordOf(t api.Token) string {
	switch t.Kind {
	case api.KindName:
		return "name"
	case api.KindNumber:
		return "number"
	}
	return lex.Spell(t)
}

// show: whether the token can stand there.
func (w *walker) show(word string) bool {
	ways := w.ways
	w.ways = nil
	for _, l := range ways {
		if l != nil && l.part.word == word {
			w.unfold(l.rest)
		}
	}
	return len(w.ways) > 0
}

func (w *walker) mayEnd() bool { return slices.Contains(w.ways, nil) }

// verdict: the code and the place that the document asks for, of a text that begins with the rule.
func verdict(all map[string]*part, rule, text string) (api.Errno, int) {
	tokens, code, at := lex.Lex(text)
	if code != api.OK {
		return code, at
	}
	w := walk(all, rule)
	deep := tooDeep(tokens)
	for i, t := range tokens {
		if !w.show(wordOf(t)) {
			return api.ErrWord, t.At
		}
		if i == deep {
			return api.ErrDeep, t.At
		}
	}
	if !w.mayEnd() {
		return api.ErrWord, len(text)
	}
	return api.OK, 0
}

// tooDeep: which of the tokens opens a thirty-third, as far as they derive; their number if none does. What is open is a row of marks: a bracket "(", a NOT "n", a minus "-", a bracket that does not count "[".
func tooDeep(tokens []api.Token) int {
	open := ""
	operand := true // is an operand waited for?
	drop := func(marks string) { open = strings.TrimRight(open, marks) }
	for i, t := range tokens {
		before := api.Token{}
		if i > 0 {
			before = tokens[i-1]
		}
		switch k := t.Kind; {
		case k == api.KindWhere || k == api.KindReturn || k == api.KindWithin || k == api.KindComma:
			drop("n-")
			operand = true
		case k == api.KindOpen && (before.Kind >= api.KindCount && before.Kind <= api.KindPrev || !operand):
			open += "["
		case k == api.KindOpen:
			open += "("
		case k == api.KindNot:
			open += "n"
		case k == api.KindMinus && operand:
			open += "-"
		case k == api.KindClose:
			drop("n-")
			open = open[:max(0, len(open)-1)]
			operand = false
		case k == api.KindAnd || k == api.KindOr:
			drop("n-")
			operand = true
		case k >= api.KindPlus && k <= api.KindGe:
			drop("-")
			operand = true
		case k == api.KindName || k == api.KindNumber || k == api.KindTrue || k == api.KindFalse:
			operand = false
		}
		if len(open)-strings.Count(open, "[") > api.MaxNest {
			return i
		}
	}
	return len(tokens)
}

// judgeExpr holds an answer against the grammar's verdict and, if that is OK, against a second reading.
func judgeExpr(t *testing.T, all map[string]*part, text string) {
	t.Helper()
	var want tree
	want.code, want.at = verdict(all, "expr", text)
	if want.code == api.OK {
		tokens, _, _ := lex.Lex(text)
		want.nodes, want.spots = treeOf(tokens)
	}
	expectExpr(t, text, want)
}

func judgeQuery(t *testing.T, all map[string]*part, text string) {
	t.Helper()
	var want told
	want.code, want.at = verdict(all, "query", text)
	if want.code == api.OK {
		tokens, _, _ := lex.Lex(text)
		want.query, want.spots = queryFrom(tokens)
	}
	expectQuery(t, text, want)
}

// words: one of each kind of token.
func words() []string {
	out := []string{"a", "7"}
	for k := api.KindOpen; k <= api.KindGe; k++ {
		out = append(out, lex.Spell(api.Token{Kind: k}))
	}
	return append(out, api.Keywords[:]...)
}

// rows: all rows of up to n words, with blanks between.
func rows(n int, words []string, yield func(string)) {
	yield("")
	if n == 0 {
		return
	}
	for _, w := range words {
		rows(n-1, words, func(rest string) { yield(w + " " + rest) })
	}
}

func TestShortRowsOfWords(t *testing.T) {
	all := rules()
	rows(2, words(), func(text string) {
		judgeExpr(t, all, text)
		judgeQuery(t, all, text)
	})
	judge := func(text string) { judgeExpr(t, all, text) }
	rows(4, strings.Fields("7 a . ( ) COUNT PREV NOT - * < AND"), judge)
	rows(6, strings.Fields("7 ( ) NOT - ="), judge)
	rows(5, strings.Fields("SUM ( a . )"), judge)
	rows(5, strings.Fields("! A + { ("), func(text string) { judgeQuery(t, all, "PATTERN SEQ("+text) })
	rows(4, strings.Fields("( ) | A a + ,"), func(text string) { judgeQuery(t, all, "PATTERN SEQ("+text+") WITHIN 1") })
	rows(4, strings.Fields("{ } , 7 a )"), func(text string) { judgeQuery(t, all, "PATTERN SEQ(A a"+text+") WITHIN 1") })
	rows(4, strings.Fields("USING AFTER ANY NEXT STRICT ALL PAST ONCE WHERE TRUE"), func(text string) { judgeQuery(t, all, "PATTERN SEQ(A a) "+text+"WITHIN 1") })
	rows(4, strings.Fields("WITHIN 7 PARTITION BY a RETURN , WHERE"), func(text string) { judgeQuery(t, all, "PATTERN SEQ(A a) "+text) })
}

// samples: queries that have every rule of the grammar in them.
func samples() []string {
	return []string{
		"PATTERN SEQ ( A a ) WITHIN 7",
		"PATTERN SEQ ( ! A n , ( B | C ) + b , D d { 2 , 3 } , ! ( E | F ) m ) USING NEXT AFTER PAST WHERE NOT a . x < - 1 WITHIN 9 PARTITION BY k RETURN SUM ( b . x ) , COUNT ( b )",
		"PATTERN SEQ ( ( A ) a ) AFTER ONCE WHERE ( a . x + 1 ) * 2 = 3 % - ( 4 / 5 ) AND TRUE OR NOT NOT ( FALSE ) WITHIN 0 RETURN a . x >= MIN ( a . y ) - LAST ( a . z ) , - - 8",
	}
}

func TestEveryTokenAtEveryPlace(t *testing.T) {
	all := rules()
	for _, sample := range samples() {
		tokens := strings.Fields(sample)
		for i := range len(tokens) + 1 {
			ahead := strings.Join(tokens[:i], " ") + " "
			behind := " " + strings.Join(tokens[i:], " ")
			judgeQuery(t, all, ahead)
			for _, w := range words() {
				judgeQuery(t, all, ahead+w)
				judgeQuery(t, all, ahead+w+behind)
				if i < len(tokens) {
					judgeQuery(t, all, ahead+w+" "+strings.Join(tokens[i+1:], " "))
				}
			}
		}
	}
}

package lex_test

import (
	"fmt"

	"sluice/api"
	"sluice/lex"
)

// The README's lines.
func Example() {
	tokens, code, at := lex.Lex("seq(A a) # so\n a.x>=010")
	fmt.Println(code == api.OK, at, len(tokens), tokens[0].Kind == api.KindSeq, tokens[2].Text, tokens[9].N, tokens[9].At)
	fmt.Println(lex.Join(tokens))
	fmt.Println(lex.Word("Within") == api.KindWithin, lex.Word("Sequel") == api.KindName)
	fmt.Println(lex.Spell(api.Token{Kind: api.KindGe}))
	_, code, at = lex.Lex("a - 12ab")
	fmt.Println(code == api.ErrNumber, at)
	// Output:
	// true 0 10 true A 10 20
	// SEQ ( A a ) a . x >= 10
	// true true
	// >=
	// true 4
}

package parse

import (
	"sluice/api"
	"sluice/lex"
)

// descent: a way down the grammar, from left to right over the tokens.
type descent struct {
	tokens []api.Token // those that are not yet taken
	end    int         // the text's length
	open   int         // the brackets, NOTs and minus signs that are open
}

// refusal: what the descent gives up with, and nothing else does.
type refusal struct {
	code api.Errno
	at   int
}

// reason: the code and the place of what a face has caught. What is no refusal goes on as the panic that it was.
func reason(caught any) (api.Errno, int) {
	r, ours := caught.(refusal)
	if !ours {
		panic(caught)
	}
	return r.code, r.at
}

func begin(text string) *descent {
	tokens, code, at := lex.Lex(text)
	if code != api.OK {
		panic(refusal{code, at})
	}
	return &descent{tokens: tokens, end: len(text)}
}

// giveUp refuses the next token, or the text's end.
func (d *descent) giveUp(code api.Errno) { panic(refusal{code, d.place()}) }

func (d *descent) place() int {
	if len(d.tokens) == 0 {
		return d.end
	}
	return d.tokens[0].At
}

// ahead: the next token's kind; at the text's end 0, which no token has.
func (d *descent) ahead() api.Kind {
	if len(d.tokens) == 0 {
		return 0
	}
	return d.tokens[0].Kind
}

// pass takes the next token, whatever it is: the caller has looked at it.
func (d *descent) pass() api.Token {
	t := d.tokens[0]
	d.tokens = d.tokens[1:]
	return t
}

// need takes a token of that kind: no other can stand here.
func (d *descent) need(k api.Kind) api.Token {
	if d.ahead() != k {
		d.giveUp(api.ErrWord)
	}
	return d.pass()
}

// has takes a token of that kind, if it is the next one.
func (d *descent) has(k api.Kind) bool {
	if d.ahead() != k {
		return false
	}
	d.pass()
	return true
}

// enter takes a token that opens. It may stand here: whether it is one too many is asked before anything behind it is.
func (d *descent) enter() api.Token {
	if d.open == api.MaxNest {
		d.giveUp(api.ErrDeep)
	}
	d.open++
	return d.pass()
}

func (d *descent) leave() { d.open-- }

func (d *descent) needEnd() {
	if len(d.tokens) > 0 {
		d.giveUp(api.ErrWord)
	}
}

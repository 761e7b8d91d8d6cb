package show

import (
	"sluice/api"
	"sluice/lex"
)

// piece: some tokens of a text, one or more or none at all, and how deep the deepest of them lies.
type piece struct {
	tokens []api.Token
	deep   int
}

// glue: the pieces one behind the other. What one of them opens has ended ahead of the next.
func glue(pieces ...piece) piece {
	var out piece
	for _, p := range pieces {
		out.tokens = append(out.tokens, p.tokens...)
		out.deep = max(out.deep, p.deep)
	}
	return out
}

// opened: the pieces glued, of which the first opens and all are within what it opens.
func opened(pieces ...piece) piece {
	out := glue(pieces...)
	out.deep++
	return out
}

// parted: the pieces glued, with the sign between each two.
func parted(sign api.Kind, pieces ...piece) piece {
	var out []piece
	for i, p := range pieces {
		if i > 0 {
			out = append(out, fixed(sign))
		}
		out = append(out, p)
	}
	return glue(out...)
}

// fixed: keywords and signs, which their kinds say all of.
func fixed(kinds ...api.Kind) piece {
	var out piece
	for _, k := range kinds {
		out.tokens = append(out.tokens, api.Token{Kind: k})
	}
	return out
}

func name(s string) piece {
	return piece{tokens: []api.Token{{Kind: api.KindName, Text: s}}}
}

func number(n int64) piece {
	return piece{tokens: []api.Token{{Kind: api.KindNumber, N: n}}}
}

// each: the pieces of a list's elements.
func each[T any](list []T, tell func(T) piece) []piece {
	var out []piece
	for _, x := range list {
		out = append(out, tell(x))
	}
	return out
}

// written: the text of all tokens, if the limits let it be one.
func written(p piece) (string, api.Errno) {
	if len(p.tokens) > api.MaxTokens {
		return "", api.ErrBig
	}
	if p.deep > api.MaxNest {
		return "", api.ErrDeep
	}
	return lex.Join(p.tokens), api.OK
}

package lex

import "sluice/api"

// signs: that of the kind KindOpen + i is signs[i].
var signs = [19]string{"(", ")", "{", "}", ",", ".", "!", "|", "+", "-", "*", "/", "%", "=", "!=", "<", "<=", ">", ">="}

// signKind: the sign's kind, 0 if it is none.
func signKind(s string) api.Kind {
	for i, sign := range signs {
		if s == sign {
			return api.KindOpen + api.Kind(i)
		}
	}
	return 0
}

package lex

import (
	"strconv"

	"sluice/api"
)

// state: what the machine is in the midst of.
type state int

const (
	between state = iota // of two tokens, or ahead of the first, or behind the last
	inWord
	inNumber
	inSign
	inComment
	lost // at a byte with which nothing begins
)

// machine: what it is in goes from the place begin on; at is the byte that it looks at.
type machine struct {
	text   string
	begin  int
	at     int
	tokens []api.Token
}

// run reads the text up to its end, or to the first error: its place is begin.
func (m *machine) run() api.Errno {
	var t api.Token
	var code api.Errno
next:
	if m.atEnd() {
		return api.OK
	}
	m.begin = m.at
	switch m.entered() {
	case between:
		m.at++
		goto next
	case inComment:
		goto comment
	case inWord:
		goto word
	case inNumber:
		goto number
	case inSign:
		goto sign
	}
	return api.ErrByte
comment:
	if !m.atEnd() && m.text[m.at] != '\n' {
		m.at++
		goto comment
	}
	goto next
word:
	if !m.atEnd() && goesOnInWord(m.text[m.at]) {
		m.at++
		goto word
	}
	t, code = m.word()
	goto told
number:
	if !m.atEnd() && isDigit(m.text[m.at]) {
		m.at++
		goto number
	}
	t, code = m.number()
	goto told
sign:
	t, code = m.sign(), api.OK
told:
	if code == api.OK {
		code = m.take(t)
	}
	if code != api.OK {
		return code
	}
	goto next
}

func (m *machine) atEnd() bool { return m.at == len(m.text) }

// entered: the state into which a byte between tokens leads.
func (m *machine) entered() state {
	b := m.text[m.at]
	switch {
	case isBlank(b):
		return between
	case b == '#':
		return inComment
	case beginsWord(b):
		return inWord
	case isDigit(b):
		return inNumber
	case signKind(m.text[m.at:m.at+1]) != 0:
		return inSign
	}
	return lost
}

func (m *machine) word() (api.Token, api.Errno) {
	s := m.text[m.begin:m.at]
	if len(s) > api.MaxName {
		return api.Token{}, api.ErrName
	}
	kind := Word(s)
	if kind != api.KindName {
		s = ""
	}
	return api.Token{Kind: kind, Text: s, At: m.begin}, api.OK
}

func (m *machine) number() (api.Token, api.Errno) {
	if !m.atEnd() && beginsWord(m.text[m.at]) {
		return api.Token{}, api.ErrNumber
	}
	n, err := strconv.ParseInt(m.text[m.begin:m.at], 10, 64)
	if err != nil {
		return api.Token{}, api.ErrNumber
	}
	return api.Token{Kind: api.KindNumber, N: n, At: m.begin}, api.OK
}

func (m *machine) sign() api.Token {
	switch m.text[m.at] {
	case '!', '<', '>':
		if m.at+1 < len(m.text) && m.text[m.at+1] == '=' {
			m.at += 2
			break
		}
		fallthrough
	default:
		m.at++
	}
	return api.Token{Kind: signKind(m.text[m.begin:m.at]), At: m.begin}
}

// take keeps a sound token, if there is room: an error of the token itself comes ahead of a want of room.
func (m *machine) take(t api.Token) api.Errno {
	if len(m.tokens) == api.MaxTokens {
		return api.ErrTokens
	}
	m.tokens = append(m.tokens, t)
	return api.OK
}

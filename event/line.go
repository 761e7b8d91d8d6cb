package event

import (
	"strconv"
	"strings"

	"sluice/api"
)

// lineReader reads an event line word by word: the word that was read last stands from at to end.
type lineReader struct {
	line    string
	at, end int
}

// next: the next word; the empty string, at the line's length, if it is missing.
func (r *lineReader) next() string {
	from := r.end
	r.at, r.end = len(r.line), len(r.line)
	inside := false
	for i, c := range r.line[from:] {
		if isGap(c) && inside {
			r.end = from + i
			break
		}
		if !isGap(c) && !inside {
			r.at = from + i
			inside = true
		}
	}
	return r.line[r.at:r.end]
}

// event reads the whole line. At an error the word that was read last is the one that is refused.
func (r *lineReader) event(s api.Schema) (api.Event, api.Errno) {
	var e api.Event
	var ok bool
	if e.Ts, ok = number(r.next()); !ok {
		return e, api.ErrLine
	}
	if !isSafe(e.Ts) {
		return e, api.ErrRange
	}
	if e.Id, ok = identity(r.next()); !ok {
		return e, api.ErrLine
	}
	name := r.next()
	if name == "" {
		return e, api.ErrLine
	}
	if e.Type = TypeOf(s, name); e.Type < 0 {
		return e, api.ErrType
	}
	var code api.Errno
	e.Attrs, code = r.values(len(s.Types[e.Type].Attrs))
	return e, code
}

// values reads as many values as are asked for, and that nothing stands behind them.
func (r *lineReader) values(count int) ([api.MaxAttrs]int64, api.Errno) {
	var out [api.MaxAttrs]int64
	for i := range count {
		word := r.next()
		if word == "" {
			return out, api.ErrAttrs
		}
		var ok bool
		if out[i], ok = number(word); !ok {
			return out, api.ErrLine
		}
	}
	if r.next() != "" {
		return out, api.ErrAttrs
	}
	return out, api.OK
}

// number: the digits are asked for by themselves, since strconv would take a + too.
func number(word string) (int64, bool) {
	if !areDigits(strings.TrimPrefix(word, "-")) {
		return 0, false
	}
	n, err := strconv.ParseInt(word, 10, 64)
	return n, err == nil
}

func identity(word string) (uint64, bool) {
	if !areDigits(word) {
		return 0, false
	}
	n, err := strconv.ParseUint(word, 10, 64)
	return n, err == nil
}

func areDigits(s string) bool {
	for _, r := range s {
		if !isDigit(r) {
			return false
		}
	}
	return s != ""
}

func eventLine(t api.TypeDef, e api.Event) string {
	var out strings.Builder
	out.WriteString(strconv.FormatInt(e.Ts, 10))
	out.WriteString(" " + strconv.FormatUint(e.Id, 10))
	out.WriteString(" " + t.Name)
	for i := range t.Attrs {
		out.WriteString(" " + strconv.FormatInt(e.Attrs[i], 10))
	}
	return out.String()
}

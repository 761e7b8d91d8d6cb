package parse

import (
	"errors"
	"runtime"
	"testing"

	"sluice/api"
)

// outcome: what attempt says of a reading, and the panic that comes out of it.
func outcome(read func(*descent)) (code api.Errno, at int, gone any) {
	defer func() { gone = recover() }()
	code, at = attempt("1 + 2", read)
	return
}

func TestRefusalsAreCaught(t *testing.T) {
	for _, r := range []refusal{{api.ErrWord, 0}, {api.ErrWord, 17}, {api.ErrDeep, 128}, {api.ErrLong, api.MaxText}} {
		if code, at, gone := outcome(func(*descent) { panic(r) }); code != r.code || at != r.at || gone != nil {
			t.Errorf("%+v: %d at %d, panic %v", r, code, at, gone)
		}
	}
	if code, at, gone := outcome(func(*descent) {}); code != api.OK || at != 0 || gone != nil {
		t.Errorf("nothing is refused: %d at %d, panic %v", code, at, gone)
	}
}

func TestOtherPanicsAreNotHidden(t *testing.T) {
	for _, other := range []any{"refusal", 40, api.ErrWord, errors.New("other"), &refusal{api.ErrWord, 3}, struct{ code, at int }{40, 3}} {
		if code, at, gone := outcome(func(*descent) { panic(other) }); gone != other || code != api.OK || at != 0 {
			t.Errorf("%v becomes %d at %d, panic %v", other, code, at, gone)
		}
	}
	_, _, gone := outcome(func(d *descent) {
		for {
			d.pass()
		}
	})
	if _, ok := gone.(runtime.Error); !ok {
		t.Errorf("a fault of the program itself is hidden: %v", gone)
	}
}

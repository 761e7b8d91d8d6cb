package plan_test

import (
	"fmt"
	"reflect"
	"slices"
	"strings"
)

// What stands in memory, over values of any type: lists with their spare room.

// lists hands each list of a value over, with its spare room, the inner ones ahead of the outer ones.
func lists(v reflect.Value, tell func(reflect.Value)) {
	switch v.Kind() {
	case reflect.Struct:
		for i := range v.NumField() {
			lists(v.Field(i), tell)
		}
	case reflect.Slice:
		whole := v.Slice3(0, v.Cap(), v.Cap())
		for i := range whole.Len() {
			lists(whole.Index(i), tell)
		}
		tell(whole)
	}
}

// odd: a value of a type that nobody else has laid down.
func odd(t reflect.Type) reflect.Value {
	v := reflect.New(t).Elem()
	switch t.Kind() {
	case reflect.Struct:
		for i := range t.NumField() {
			v.Field(i).Set(odd(t.Field(i).Type))
		}
	case reflect.Array:
		for i := range t.Len() {
			v.Index(i).Set(odd(t.Elem()))
		}
	case reflect.Slice:
		v.Set(reflect.Append(v, odd(t.Elem())))
	case reflect.String:
		v.SetString("odd")
	case reflect.Bool:
		v.SetBool(true)
	case reflect.Uint64:
		v.SetUint(77)
	default:
		v.SetInt(77)
	}
	return v
}

// roomy: the same in memory of its own, each list with something odd in its spare room.
func roomy[T any](x T) T {
	var again func(v reflect.Value) reflect.Value
	again = func(v reflect.Value) reflect.Value {
		out := reflect.New(v.Type()).Elem()
		out.Set(v)
		switch v.Kind() {
		case reflect.Struct:
			for i := range v.NumField() {
				out.Field(i).Set(again(v.Field(i)))
			}
		case reflect.Slice:
			out = reflect.MakeSlice(v.Type(), 0, v.Len()+2)
			for i := range v.Len() {
				out = reflect.Append(out, again(v.Index(i)))
			}
			reflect.Append(out, odd(v.Type().Elem()), odd(v.Type().Elem()))
		}
		return out
	}
	return again(reflect.ValueOf(&x).Elem()).Interface().(T)
}

// everything: a value with the spare room of all its lists.
func everything(x any) string {
	var out strings.Builder
	fmt.Fprintf(&out, "%#v", x)
	lists(reflect.ValueOf(x), func(l reflect.Value) { fmt.Fprintf(&out, " %#v", l) })
	return out.String()
}

// scribble writes over each list of a value, its spare room too.
func scribble(x any) {
	lists(reflect.ValueOf(x), func(l reflect.Value) {
		for i := range l.Len() {
			l.Index(i).Set(odd(l.Type().Elem()))
		}
	})
}

// region: where in memory a list with its spare room stands.
type region struct{ from, to uintptr }

// regions: those of all lists of the values.
func regions(values ...any) []region {
	var out []region
	for _, x := range values {
		lists(reflect.ValueOf(x), func(l reflect.Value) {
			if bytes := uintptr(l.Cap()) * l.Type().Elem().Size(); bytes > 0 {
				out = append(out, region{l.Pointer(), l.Pointer() + bytes})
			}
		})
	}
	return out
}

// share: do two of the lists of these values stand in the same memory?
func share(values ...any) bool {
	all := regions(values...)
	slices.SortFunc(all, func(a, b region) int { return int(a.from) - int(b.from) })
	for i := 1; i < len(all); i++ {
		if all[i].from < all[i-1].to {
			return true
		}
	}
	return false
}

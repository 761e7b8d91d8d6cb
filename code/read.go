package code

import (
	"sluice/api"
	"sluice/num"
)

// places: by an event's type where an attribute stands: ColTs, a place of Attrs, or anything else for none. A tree finds it by the attribute's name and a program by a column: what is then read is the same, so that the two cannot part here.
type places func(typ int) int

func known(n int64) api.Val { return api.Val{Known: true, N: n} }

// listOf: the events of an item.
func listOf(env api.Env, item int) []api.Event {
	if item < 0 || item >= len(env.Lists) {
		return nil
	}
	return env.Lists[item]
}

// count: how many events an item has.
func count(env api.Env, item int) api.Val { return known(int64(len(listOf(env, item)))) }

// mention: what is read of an item's events by OpAttr, OpPrev or an aggregate of an attribute. (Whether a negative item is gone through need not be asked: it has no events.)
func mention(op api.Op, env api.Env, item int, where places) api.Val {
	list, goneThrough := listOf(env, item), item == env.Each
	switch {
	case op == api.OpAttr && goneThrough:
		return where.readAt(list, env.At)
	case op == api.OpAttr:
		return where.readAt(list, 0)
	case op == api.OpPrev && goneThrough:
		return where.readAt(list, env.At-1)
	case op == api.OpPrev:
		return api.Val{}
	}
	return where.fold(op, list)
}

// readAt: the attribute of the event at a place of a list, which need not have it.
func (where places) readAt(list []api.Event, at int) api.Val {
	if at < 0 || at >= len(list) {
		return api.Val{}
	}
	return where.read(list[at])
}

// fold: an aggregate of the attribute over a list. One event without it makes the whole unknown.
func (where places) fold(op api.Op, list []api.Event) api.Val {
	numbers := make([]int64, 0, len(list))
	for _, e := range list {
		v := where.read(e)
		if !v.Known {
			return api.Val{}
		}
		numbers = append(numbers, v.N)
	}
	return num.Fold(op, numbers)
}

// read: the attribute of an event.
func (where places) read(e api.Event) api.Val {
	place := where(e.Type)
	switch {
	case place == api.ColTs:
		return known(e.Ts)
	case place >= 0 && place < len(e.Attrs):
		return known(e.Attrs[place])
	}
	return api.Val{}
}

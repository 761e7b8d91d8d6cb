package gate_test

import (
	"fmt"
	"math"
	"slices"
	"strings"

	"sluice/api"
)

// scatter: numbers below n that look drawn, the same ones for one seed.
func scatter(seed uint64) func(n int) int {
	state := 88172645463325252 + seed<<32
	return func(n int) int {
		state ^= state << 13
		state ^= state >> 7
		state ^= state << 17
		return int(state % uint64(n))
	}
}

// ev: an event that bears a sign, which its name does not tell.
func ev(ts int64, id uint64, sign int) api.Event {
	return api.Event{Ts: ts, Id: id, Type: sign, Attrs: [api.MaxAttrs]int64{1, 7: int64(-sign)}}
}

// at: an event of that name that is told from others by its name alone.
func at(ts int64, id uint64) api.Event { return ev(ts, id, 0) }

// shown: events by their names.
func shown(l []api.Event) string {
	var out []string
	for _, e := range l {
		out = append(out, fmt.Sprintf("%d/%d", e.Ts, e.Id))
	}
	return "[" + strings.Join(out, " ") + "]"
}

var wildTimes = []int64{math.MinInt64, math.MinInt64 + 1, api.NoMark - 1, api.NoMark, api.MinTs, api.MinTs + 1, -1, 0, 1, api.MaxTs - 1, api.MaxTs, api.MaxTs + 1, math.MaxInt64 - 1, math.MaxInt64}

var wildIds = []uint64{0, 1, math.MaxInt64, 1 << 63, math.MaxUint64 - 1, math.MaxUint64}

var wildCapacities = []int{math.MinInt, -4096, -1, 0, 1, 2, 3, api.MaxCap, api.MaxCap + 1, math.MaxInt32, math.MaxInt}

// drawEvent: from a few names near a mark, now and then from wild ones.
func drawEvent(pick func(int) int, mark int64, sign int) api.Event {
	if pick(8) == 0 {
		return ev(wildTimes[pick(len(wildTimes))], wildIds[pick(len(wildIds))], sign)
	}
	return ev(near(pick, mark), uint64(pick(3)), sign)
}

// near: a time a little below a mark, at it, or some way above it.
func near(pick func(int) int, mark int64) int64 { return max(mark, -4) + int64(pick(12)-2) }

// shuffled: the list's events in another order.
func shuffled(pick func(int) int, l []api.Event) []api.Event {
	l = slices.Clone(l)
	for i := range l {
		j := i + pick(len(l)-i)
		l[i], l[j] = l[j], l[i]
	}
	return l
}

// scrawl writes over a list and its spare room, grows it within that room and beyond it, and writes over that too.
func scrawl(l []api.Event) {
	all := l[:cap(l)]
	for i := range all {
		all[i] = ev(-99, 99, 99)
	}
	for range 3 {
		l = append(l, ev(-77, 77, 77))
		clear(l)
	}
}

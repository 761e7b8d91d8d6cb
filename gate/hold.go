package gate

import "sluice/api"

// hold lays an event on the pile; that it may lie there has been asked.
func (g *Gate) hold(e api.Event) {
	g.events.Push(e)
	g.names[e.Name()] = struct{}{}
}

// holds: is an event of this name held?
func (g *Gate) holds(n api.Name) bool {
	_, yes := g.names[n]
	return yes
}

// reach sets the mark; what is at or below it leaves the gate.
func (g *Gate) reach(mark int64) []api.Event {
	g.mark = mark
	var out []api.Event
	for e, ok := g.Peek(); ok && e.Ts <= mark; e, ok = g.Peek() {
		g.Pop()
		delete(g.names, e.Name())
		out = append(out, e)
	}
	return out
}

// isSafe: is a timestamp, or a mark, in the safe range?
func isSafe(ts int64) bool { return api.MinTs <= ts && ts <= api.MaxTs }

// canStand: can a gate stand at this mark? A Flush leaves it at MaxTs.
func canStand(mark int64, closed bool) bool {
	if closed {
		return mark == api.MaxTs
	}
	return mark == api.NoMark || isSafe(mark)
}

// canWait: can these events be held at this mark? None can at MaxTs, so that a closed gate needs no question of its own.
func canWait(held []api.Event, mark int64) bool {
	for i, e := range held {
		if e.Ts <= mark || e.Ts > api.MaxTs || i > 0 && !held[i-1].Before(e) {
			return false
		}
	}
	return true
}

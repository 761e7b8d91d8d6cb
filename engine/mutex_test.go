package engine

import (
	"testing"
	"time"

	"sluice/api"
)

// methods: a call of each.
var methods = map[string]func(g *Engine){
	"Push":    func(g *Engine) { g.Push(api.Event{Ts: 1}) },
	"Advance": func(g *Engine) { g.Advance(1) },
	"Flush":   func(g *Engine) { g.Flush() },
	"Sizes":   func(g *Engine) { g.Sizes() },
	"State":   func(g *Engine) { g.State() },
}

func opened(t *testing.T) *Engine {
	t.Helper()
	g, f := Open("type A(k)", "PATTERN SEQ(A a) WITHIN 1", 9)
	if g == nil {
		t.Fatal(f)
	}
	return g
}

// The section 'Ways': the mutex stands around every method: as long as another caller has it, none goes on.
func TestEveryMethodWaits(t *testing.T) {
	for name, call := range methods {
		g := opened(t)
		g.mutex.Lock()
		done := make(chan bool)
		go func() {
			call(g)
			close(done)
		}()
		select {
		case <-done:
			t.Errorf("16.10: %s does not wait for another caller", name)
		case <-time.After(30 * time.Millisecond):
		}
		g.mutex.Unlock()
		<-done
	}
}

// The section 'Ways': no way out of a method keeps the mutex: neither an answer nor a refusal, nor a panic.
func TestNoWayOutKeepsTheMutex(t *testing.T) {
	for name, call := range methods {
		closed, broken := opened(t), opened(t)
		closed.Flush()
		broken.gate, broken.shards = nil, nil
		for kind, g := range map[string]*Engine{"open": opened(t), "closed": closed, "broken": broken} {
			panics := func() (yes bool) {
				defer func() { yes = recover() != nil }()
				call(g)
				return false
			}()
			if panics != (kind == "broken") {
				t.Errorf("%s of one that is %s: panics: %v", name, kind, panics)
			}
			if !g.mutex.TryLock() {
				t.Errorf("16.10: %s of one that is %s keeps the mutex", name, kind)
			}
		}
	}
}

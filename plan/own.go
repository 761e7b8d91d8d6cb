package plan

import (
	"slices"

	"sluice/api"
	"sluice/code"
)

// isPlace: is it a place in a list of that length? A plan that somebody else made may say any number.
func isPlace(at, length int) bool { return at >= 0 && at < length }

// mayStand: is the event of one of the types, and is each of the item's own filters true of it?
func mayStand(e api.Event, item int, types []int, own []api.Program) bool {
	if !slices.Contains(types, e.Type) {
		return false
	}
	// This is asked of every event of the stream: an array of fixed length asks for no new memory each time.
	var lists [api.MaxItems][]api.Event
	if isPlace(item, len(lists)) {
		lists[item] = []api.Event{e}
	}
	env := api.Env{Lists: lists[:], Each: once}
	for _, program := range own {
		if !code.Holds(program, env) {
			return false
		}
	}
	return true
}

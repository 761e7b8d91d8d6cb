package check

import (
	"slices"

	"sluice/api"
	"sluice/event"
)

// isTruth: is a node with that operator a truth, else a number?
func isTruth(op api.Op) bool {
	return op == api.OpTrue || op == api.OpFalse || joins(op) || op >= api.OpEq && op <= api.OpGe
}

// joins: does the operator work on truths? Every other one that has operands works on numbers.
func joins(op api.Op) bool { return op == api.OpNot || op == api.OpAnd || op == api.OpOr }

// isBare: does a node with that operator mention its variable barely?
func isBare(op api.Op) bool { return op == api.OpAttr || op == api.OpPrev }

// isAggregate: does a node with that operator mention its variable by an aggregate?
func isAggregate(op api.Op) bool { return op >= api.OpCount && op <= api.OpLast }

func isRepeated(i api.Item) bool { return !i.Neg && i.Hi > 1 }

func isSingle(i api.Item) bool { return !i.Neg && i.Hi <= 1 }

// hasAttr: has each type of the item the attribute?
func hasAttr(s api.Schema, i api.Item, attr string) bool {
	return !slices.ContainsFunc(i.Types, func(name string) bool {
		return event.AttrOf(s, event.TypeOf(s, name), attr) == api.ColNone
	})
}

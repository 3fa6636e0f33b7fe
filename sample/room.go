package sample

import (
	"slices"

	"chirograph/api"
)

// CopyOf an expression, which shares no list with it.
func CopyOf(e api.Expr) api.Expr {
	e.Args = slices.Clone(e.Args)
	for i, part := range e.Args {
		e.Args[i] = CopyOf(part)
	}
	return e
}

// Roomy: the expressions of a list, with spare room behind them that something stands in, all the way down.
func Roomy(l []api.Expr) []api.Expr {
	room := []api.Expr{}
	for _, e := range l {
		e.Args = Roomy(e.Args)
		room = append(room, e)
	}
	room = append(room, Op(api.Neg, Col("spare")), Col("spare"))
	return room[:len(l)]
}

// WholeOf a list: a copy with its spare room, and with the whole lists of its expressions.
func WholeOf(l []api.Expr) []api.Expr {
	all := slices.Clone(l[:cap(l)])
	for i, e := range all {
		all[i].Args = WholeOf(e.Args)
	}
	return all
}

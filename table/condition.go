package table

import (
	"chirograph/api"
	"chirograph/eval"
	"chirograph/kinds"
	"chirograph/known"
)

// Condition tells what is wrong with a condition on rows of columns (P13.4).
func Condition(e api.Expr, cols []api.Column) api.Errno {
	if !known.Expr(e) {
		return kinds.Columns(cols)
	}
	kind, _, why := kinds.Of(e, cols)
	if why == api.OK && !fits(kind, api.Bool) {
		return api.ErrKind
	}
	return why
}

// fits tells whether what has a Kind may stand where another one is asked for, as Null may anywhere.
func fits(kind, asked int) bool {
	return kind == asked || kind == api.Null
}

// Holds: is a condition true of a row (P13.4)?
func Holds(e api.Expr, cols []api.Column, r []api.Value) (bool, api.Errno) {
	if why := Condition(e, cols); why != api.OK {
		return false, why
	}
	if why := kinds.Row(r, cols); why != api.OK {
		return false, why
	}
	if !known.Expr(e) {
		return true, api.OK
	}
	v, why := eval.Eval(e, cols, r)
	return v == api.Value{Kind: api.Bool, Int: 1}, why
}

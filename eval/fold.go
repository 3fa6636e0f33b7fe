package eval

import (
	"strings"

	"chirograph/api"
	"chirograph/expr"
	"chirograph/fresh"
)

// Fold what is known ahead of any row (P10.4).
func Fold(e api.Expr) (api.Expr, api.Errno) {
	if why := expr.Check(e); why != api.OK {
		return api.Expr{}, why
	}
	return folded(e), api.OK
}

// folded: an expression that may be, its parts ahead of it.
func folded(e api.Expr) api.Expr {
	parts := make([]api.Expr, len(e.Args))
	for i, part := range e.Args {
		parts[i] = folded(part)
	}
	e.Args = parts
	switch x := makeReady(e).(type) {
	case literal:
		return literalOf(x.value)
	case column:
		return api.Expr{Op: api.Col, Name: strings.Clone(x.name)}
	case operation:
		if v, ok := foreseen(x); ok {
			return literalOf(v)
		}
	}
	return e
}

func literalOf(v api.Value) api.Expr {
	return api.Expr{Op: api.Lit, Value: fresh.Value(v)}
}

// foreseen: what an operation says in every row, if all its parts are literals, and if a literal may say it, too.
func foreseen(x operation) (v api.Value, ok bool) {
	for _, part := range x.parts() {
		if _, ok := part.(literal); !ok {
			return api.Value{}, false
		}
	}
	v, why := x.says(fields{})
	return v, why == api.OK && v.Int >= 0
}

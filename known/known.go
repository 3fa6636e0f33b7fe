// Package known: what there is of the things that numbers or names name, for the layers that ask it alike.
package known

import (
	"slices"

	"chirograph/api"
)

// Mode tells whether digests have such a mode.
func Mode(mode int) bool {
	return mode == api.Hashed || mode == api.Open
}

// Place tells whether a list of n has such a place.
func Place(i, n int) bool {
	return i >= 0 && i < n
}

// Column is the place of the first column of this name; below 0: there is none.
func Column(name string, cols []api.Column) int {
	return slices.IndexFunc(cols, func(c api.Column) bool { return c.Name == name })
}

// Expr tells whether there is an expression, be it a wrong one: if all of it is zero there is none at all.
func Expr(e api.Expr) bool {
	return e.Op != 0 || e.Name != "" || e.Value != api.Value{} || len(e.Args) > 0
}

// Package written: expressions and queries as they are written, and rows in short, for the tests of the layers that stand on expr. The program itself does not use it.
package written

import (
	"chirograph/api"
	"chirograph/expr"
	"chirograph/lex"
)

// Expr of a text, which must be one: that it is not is a fault of the test.
func Expr(text string) api.Expr {
	tokens, _, e := lex.Cut(text)
	x, _, why := expr.Parse(tokens)
	if e != api.OK || why != api.OK {
		panic("no expression: " + text)
	}
	return x
}

// Text of an expression, which must be one that may be.
func Text(e api.Expr) string {
	tokens, why := expr.Show(e)
	text, f := lex.Show(tokens)
	if why != api.OK || f != api.OK {
		panic("an expression that can't be shown")
	}
	return text
}

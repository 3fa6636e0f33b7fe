package expr

import (
	"strings"

	"chirograph/api"
)

// Show an expression as tokens (P8.3).
func Show(e api.Expr) ([]api.Token, api.Errno) {
	if why := Check(e); why != api.OK {
		return nil, why
	}
	return appendExpr(nil, e), api.OK
}

// appendExpr lays the tokens of an expression that may be behind others.
func appendExpr(l []api.Token, e api.Expr) []api.Token {
	f := forms[e.Op]
	switch e.Op {
	case api.Lit:
		return append(l, literalToken(e.Value))
	case api.Col:
		return append(l, api.Token{Kind: api.Name, Text: strings.Clone(e.Name)})
	case api.Length, api.Coalesce:
		return appendBracketed(append(l, mark(f.mark)), e.Args...)
	case api.IsNull:
		l = appendPart(l, e.Args[0], f.left)
		return append(l, mark(f.mark), mark(nullWord))
	}
	if f.left > 0 {
		l = appendPart(l, e.Args[0], f.left)
	}
	l = append(l, mark(f.mark))
	return appendPart(l, e.Args[f.parts-1], f.right)
}

// appendPart lays a part where it must be of such a level, or of a higher one: in brackets, if it is not.
func appendPart(l []api.Token, part api.Expr, level int) []api.Token {
	if forms[part.Op].level < level {
		return appendBracketed(l, part)
	}
	return appendExpr(l, part)
}

// appendBracketed lays parts in brackets, with commas between.
func appendBracketed(l []api.Token, parts ...api.Expr) []api.Token {
	l = append(l, mark(opens))
	for i, part := range parts {
		if i > 0 {
			l = append(l, mark(comma))
		}
		l = appendExpr(l, part)
	}
	return append(l, mark(closes))
}

// literalToken is how a literal that may be is written.
func literalToken(v api.Value) api.Token {
	switch v.Kind {
	case api.Bool:
		if v.Int == 1 {
			return mark(trueWord)
		}
		return mark(falseWord)
	case api.Int:
		return api.Token{Kind: api.Number, Int: v.Int}
	case api.Real:
		return api.Token{Kind: api.Hex, Bits: v.Bits}
	case api.Text:
		return api.Token{Kind: api.Quote, Text: strings.Clone(v.Text)}
	}
	return mark(nullWord)
}

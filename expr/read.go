package expr

import (
	"strings"

	"chirograph/api"
	"chirograph/lex"
)

// Parse tokens as an expression (P8.5).
func Parse(t []api.Token) (e api.Expr, place int, why api.Errno) {
	if len(t) > api.MaxTokens {
		return api.Expr{}, 0, api.ErrSize
	}
	e, to, place, why := Ahead(t, 0)
	if why != api.OK {
		return api.Expr{}, place, why
	}
	if to < len(t) {
		return api.Expr{}, to, api.ErrForm
	}
	if why = Check(e); why != api.OK {
		return api.Expr{}, 0, why
	}
	return e, 0, api.OK
}

// Ahead reads the longest expression that begins at a token: where it ends, or the token that can't stand (P8.4).
func Ahead(t []api.Token, from int) (e api.Expr, to int, place int, why api.Errno) {
	if from < 0 || from > len(t) {
		return api.Expr{}, 0, 0, api.ErrRange
	}
	r := reader{tokens: t, at: from}
	defer func() {
		if fault := recover(); fault != nil {
			place, why = r.at, fault.(api.Errno)
		}
	}()
	e = *r.or()
	return e, r.at, 0, api.OK
}

// reader of tokens from a place on. Each level has a method, which reads the longest expression of that level or of a higher one. At a token that can't stand it panics with the error, and its place is that token's. Expressions are handed on by pointers, since they may stand in one another so deep that the stack has no room for the whole of each.
type reader struct {
	tokens []api.Token
	at     int
}

// fault of the next token, which can't stand, or isn't there.
func (r *reader) fault() api.Errno {
	if r.at == len(r.tokens) {
		return api.ErrShort
	}
	return api.ErrForm
}

// sees a mark next. A token with another field than its own is no mark.
func (r *reader) sees(text string) bool {
	return r.at < len(r.tokens) && r.tokens[r.at] == mark(text)
}

// skip a mark, if it stands next.
func (r *reader) skip(text string) bool {
	seen := r.sees(text)
	if seen {
		r.at++
	}
	return seen
}

// need a mark next.
func (r *reader) need(text string) {
	if !r.skip(text) {
		panic(r.fault())
	}
}

// skipOne of the marks of some operations, if one stands next: which operation that is, or 0.
func (r *reader) skipOne(ops ...int) int {
	for _, op := range ops {
		if r.skip(forms[op].mark) {
			return op
		}
	}
	return 0
}

// operation on parts that were read.
func operation(op int, parts ...*api.Expr) *api.Expr {
	e := api.Expr{Op: op, Args: make([]api.Expr, len(parts))}
	for i, part := range parts {
		e.Args[i] = *part
	}
	return &e
}

// chain of parts, with marks of some operations between: what stands on the left of a mark is all that was read.
func (r *reader) chain(part func() *api.Expr, ops ...int) *api.Expr {
	e := part()
	for {
		op := r.skipOne(ops...)
		if op == 0 {
			return e
		}
		e = operation(op, e, part())
	}
}

// marked: an operation whose mark stands ahead of one of the same level; without the mark one of a higher level.
func (r *reader) marked(op int, same, higher func() *api.Expr) *api.Expr {
	if r.skipOne(op) == 0 {
		return higher()
	}
	return operation(op, same())
}

func (r *reader) or() *api.Expr { return r.chain(r.and, api.Or) }

func (r *reader) and() *api.Expr { return r.chain(r.not, api.And) }

func (r *reader) not() *api.Expr { return r.marked(api.Not, r.not, r.comparison) }

// comparison, or IsNull: behind either there is no other one.
func (r *reader) comparison() *api.Expr {
	left := r.join()
	switch op := r.skipOne(api.Eq, api.Ne, api.Lt, api.Le, api.Gt, api.Ge, api.IsNull); op {
	case 0:
		return left
	case api.IsNull:
		r.need(nullWord)
		return operation(op, left)
	default:
		return operation(op, left, r.join())
	}
}

func (r *reader) join() *api.Expr { return r.chain(r.sum, api.Join) }

func (r *reader) sum() *api.Expr { return r.chain(r.product, api.Add, api.Sub) }

func (r *reader) product() *api.Expr { return r.chain(r.neg, api.Mul, api.Div) }

func (r *reader) neg() *api.Expr { return r.marked(api.Neg, r.neg, r.single) }

func (r *reader) single() *api.Expr {
	if r.sees(opens) {
		return r.bracketed(1)[0]
	}
	if op := r.skipOne(api.Length, api.Coalesce); op != 0 {
		return operation(op, r.bracketed(forms[op].parts)...)
	}
	return r.plain()
}

// bracketed: so many parts in brackets, with commas between.
func (r *reader) bracketed(n int) []*api.Expr {
	r.need(opens)
	parts := make([]*api.Expr, n)
	for i := range parts {
		if i > 0 {
			r.need(comma)
		}
		parts[i] = r.or()
	}
	r.need(closes)
	return parts
}

// plain: a literal or a column, of one token.
func (r *reader) plain() *api.Expr {
	if r.at < len(r.tokens) {
		if e, ok := plainOf(r.tokens[r.at]); ok {
			r.at++
			return &e
		}
	}
	panic(r.fault())
}

// plainOf a token, if it is that of a literal or a column.
func plainOf(t api.Token) (e api.Expr, ok bool) {
	if lex.Check(t) != api.OK {
		return api.Expr{}, false
	}
	text := strings.Clone(t.Text)
	switch t.Kind {
	case api.Name:
		return api.Expr{Op: api.Col, Name: text}, true
	case api.Number:
		return literal(api.Value{Kind: api.Int, Int: t.Int}), true
	case api.Hex:
		return literal(api.Value{Kind: api.Real, Bits: t.Bits}), true
	case api.Quote:
		return literal(api.Value{Kind: api.Text, Text: text}), true
	}
	return wordLiteral(text)
}

func literal(v api.Value) api.Expr {
	return api.Expr{Op: api.Lit, Value: v}
}

// wordLiteral of a text, if it is the word of a literal. No sign has such a text.
func wordLiteral(text string) (e api.Expr, ok bool) {
	switch text {
	case nullWord:
		return literal(api.Value{}), true
	case trueWord:
		return literal(api.Value{Kind: api.Bool, Int: 1}), true
	case falseWord:
		return literal(api.Value{Kind: api.Bool}), true
	}
	return api.Expr{}, false
}

package expr

import (
	"strings"
	"testing"

	"chirograph/api"
	"chirograph/lex"
)

// rule of P8.1: a mark between two parts, or ahead of one (left 0), or behind one (right 0), the least levels of these, and the level of the whole.
type rule struct {
	level int
	op    int
	left  int
	mark  string
	right int
}

func rules() []rule {
	return []rule{
		{1, api.Or, 1, "OR", 2},
		{2, api.And, 2, "AND", 3},
		{3, api.Not, 0, "NOT", 3},
		{4, api.Eq, 5, "=", 5}, {4, api.Ne, 5, "<>", 5}, {4, api.Lt, 5, "<", 5},
		{4, api.Le, 5, "<=", 5}, {4, api.Gt, 5, ">", 5}, {4, api.Ge, 5, ">=", 5},
		{4, api.IsNull, 5, "IS NULL", 0},
		{5, api.Join, 5, "||", 6},
		{6, api.Add, 6, "+", 7}, {6, api.Sub, 6, "-", 7},
		{7, api.Mul, 7, "*", 8}, {7, api.Div, 7, "/", 8},
		{8, api.Neg, 0, "-", 8},
	}
}

// readings of texts of tokens by the rules of P8.1: each rule is tried with its mark at each place, and found ones are kept.
type readings struct {
	found map[key][]api.Expr
}

type key struct {
	text  string
	least int
}

// of the tokens of a text (a blank between two) as an expression of such a level or a higher one: all there are.
func (r *readings) of(text string, least int) []api.Expr {
	k := key{text, least}
	if l, ok := r.found[k]; ok {
		return l
	}
	var l []api.Expr
	for _, rule := range rules() {
		if rule.level >= least {
			l = append(l, r.byRule(text, rule)...)
		}
	}
	l = append(l, r.singles(text)...)
	r.found[k] = l
	return l
}

func (r *readings) byRule(text string, rule rule) []api.Expr {
	var l []api.Expr
	for _, halves := range splits(text, rule.mark) {
		if (rule.left == 0) != (halves[0] == "") || (rule.right == 0) != (halves[1] == "") {
			continue
		}
		l = append(l, r.operations(rule.op, halves[0], rule.left, halves[1], rule.right)...)
	}
	return l
}

// operations on what two texts are read as, of which one may be nothing.
func (r *readings) operations(op int, left string, leastLeft int, right string, leastRight int) []api.Expr {
	heads, tails := [][]api.Expr{nil}, [][]api.Expr{nil}
	if leastLeft > 0 {
		heads = alone(r.of(left, leastLeft))
	}
	if leastRight > 0 {
		tails = alone(r.of(right, leastRight))
	}
	var l []api.Expr
	for _, head := range heads {
		for _, tail := range tails {
			l = append(l, api.Expr{Op: op, Args: append(append([]api.Expr{}, head...), tail...)})
		}
	}
	return l
}

// alone: each one in a list of its own.
func alone(l []api.Expr) [][]api.Expr {
	var lists [][]api.Expr
	for _, e := range l {
		lists = append(lists, []api.Expr{e})
	}
	return lists
}

// splits of a text at each place where a mark stands: what is ahead of it and what is behind it.
func splits(text, mark string) [][2]string {
	var l [][2]string
	padded := " " + text + " "
	mark = " " + mark + " "
	for at := 0; ; at++ {
		next := strings.Index(padded[at:], mark)
		if next < 0 {
			return l
		}
		at += next
		l = append(l, [2]string{strings.TrimSpace(padded[:at]), strings.TrimSpace(padded[at+len(mark)-1:])})
	}
}

// singles: readings at level 9.
func (r *readings) singles(text string) []api.Expr {
	var l []api.Expr
	if e, ok := leafOf(text); ok {
		l = append(l, e)
	}
	if inside, ok := between(text, "( "); ok {
		l = append(l, r.of(inside, 1)...)
	}
	if inside, ok := between(text, "LENGTH ( "); ok {
		l = append(l, r.operations(api.Length, inside, 1, "", 0)...)
	}
	if inside, ok := between(text, "COALESCE ( "); ok {
		for _, halves := range splits(inside, ",") {
			l = append(l, r.operations(api.Coalesce, halves[0], 1, halves[1], 1)...)
		}
	}
	return l
}

// between such a beginning and a bracket that ends a text.
func between(text, begins string) (string, bool) {
	inside, ok := strings.CutPrefix(text, begins)
	if !ok {
		return "", false
	}
	return strings.CutSuffix(inside, " )")
}

// leafOf a text that is one token.
func leafOf(text string) (api.Expr, bool) {
	switch text {
	case "NULL":
		return api.Expr{Op: api.Lit}, true
	case "TRUE":
		return api.Expr{Op: api.Lit, Value: api.Value{Kind: api.Bool, Int: 1}}, true
	case "FALSE":
		return api.Expr{Op: api.Lit, Value: api.Value{Kind: api.Bool, Int: 0}}, true
	}
	l, _, _ := lex.Cut(text)
	if len(l) != 1 {
		return api.Expr{}, false
	}
	switch l[0].Kind {
	case api.Name:
		return api.Expr{Op: api.Col, Name: l[0].Text}, true
	case api.Number:
		return api.Expr{Op: api.Lit, Value: api.Value{Kind: api.Int, Int: l[0].Int}}, true
	case api.Quote:
		return api.Expr{Op: api.Lit, Value: api.Value{Kind: api.Text, Text: l[0].Text}}, true
	case api.Hex:
		return api.Expr{Op: api.Lit, Value: api.Value{Kind: api.Real, Bits: l[0].Bits}}, true
	}
	return api.Expr{}, false
}

// read a text by the rules: as no expression, or as just one.
func (r *readings) read(t *testing.T, text string) (api.Expr, bool) {
	t.Helper()
	l := r.of(text, 1)
	if len(l) > 1 {
		t.Fatalf("the rules read %q as %+v", text, l)
	}
	if len(l) == 0 {
		return api.Expr{}, false
	}
	return l[0], true
}

// goesOn tells whether a text is the beginning of an expression: whether there is one that begins so, with as little behind it as its open brackets ask for.
func (r *readings) goesOn(t *testing.T, text string) bool {
	t.Helper()
	for _, more := range []string{"", "a", "NULL", "( a )", "( a , a )"} {
		whole := strings.TrimSpace(text + " " + more)
		if _, ok := r.read(t, whole+closing(whole)); ok {
			return true
		}
	}
	return false
}

// closing: what the brackets that are open at the end of a text ask for, those of COALESCE a comma, too, if they have none.
func closing(text string) string {
	var open []string
	ahead := ""
	for _, token := range strings.Fields(text) {
		switch {
		case token == "(" && ahead == "COALESCE":
			open = append(open, " , a )")
		case token == "(":
			open = append(open, " )")
		case token == ")" && len(open) > 0:
			open = open[:len(open)-1]
		case token == "," && len(open) > 0:
			open[len(open)-1] = " )"
		}
		ahead = token
	}
	end := ""
	for _, needs := range open {
		end = needs + end
	}
	return end
}

// ahead says what P8.4 does, from the first token of a text on, in another way: token by token, as long as an expression goes on.
func (r *readings) ahead(t *testing.T, text string) (e api.Expr, to, place int, why api.Errno) {
	t.Helper()
	tokens := strings.Fields(text)
	n := 0
	for n < len(tokens) && r.goesOn(t, strings.Join(tokens[:n+1], " ")) {
		n++
	}
	if e, ok := r.read(t, strings.Join(tokens[:n], " ")); ok {
		return e, n, 0, api.OK
	}
	if n == len(tokens) {
		return api.Expr{}, 0, n, api.ErrShort
	}
	return api.Expr{}, 0, n, api.ErrForm
}

package expr

import (
	"math"
	"math/rand"
	"reflect"
	"slices"
	"strings"
	"testing"

	"chirograph/api"
	"chirograph/lex"
	"chirograph/sample"
)

// shown: an expression as a text, which must be one that lex shows.
func shown(t *testing.T, e api.Expr) string {
	t.Helper()
	l, why := Show(e)
	if why != api.OK {
		t.Fatalf("Show(%+v) = %d", e, why)
	}
	return textOf(t, l)
}

// textOf tokens, of which there may be more than lex shows at once.
func textOf(t *testing.T, l []api.Token) string {
	t.Helper()
	var words []string
	for _, token := range l {
		s, why := lex.Show([]api.Token{token})
		if why != api.OK {
			t.Fatalf("the token %+v may not be", token)
		}
		words = append(words, s)
	}
	return strings.Join(words, " ")
}

// mustShow an expression as just this text, which is read as it.
func mustShow(t *testing.T, want string, e api.Expr) {
	t.Helper()
	if text := shown(t, e); text != want {
		t.Errorf("Show(%+v) = %s, want %s", e, text, want)
	}
	mustParse(t, want, e)
}

// TestShowLeaves: P8.1 and P8.3, literals and columns.
func TestShowLeaves(t *testing.T) {
	for want, v := range map[string]api.Value{
		"NULL": sample.Null(), "TRUE": sample.Bool(1), "FALSE": sample.Bool(0), "0": sample.Int(0), "7": sample.Int(7), "9223372036854775807": sample.Int(math.MaxInt),
		"''": sample.Text(""), "'it''s'": sample.Text("it's"), "'NULL'": sample.Text("NULL"), "'a'": sample.Text("a"), "'('": sample.Text("("),
		"#0000000000000000": sample.Real(0), "#bff0000000000000": sample.Real(-1), "#7ff0000000000000": sample.Real(math.Inf(1)),
	} {
		mustShow(t, want, sample.Lit(v))
	}
	for _, name := range []string{"a", "null", "true", "length", "a_1", "abcdefgh"} {
		mustShow(t, name, sample.Col(name))
	}
}

// TestShowMarks: P8.1 and P8.3, the mark of each operation.
func TestShowMarks(t *testing.T) {
	a, b := sample.Col("a"), sample.Col("b")
	for op, want := range map[int]string{
		api.Or: "a OR b", api.And: "a AND b", api.Eq: "a = b", api.Ne: "a <> b", api.Lt: "a < b", api.Le: "a <= b", api.Gt: "a > b", api.Ge: "a >= b",
		api.Join: "a || b", api.Add: "a + b", api.Sub: "a - b", api.Mul: "a * b", api.Div: "a / b", api.Coalesce: "COALESCE ( a , b )",
	} {
		mustShow(t, want, sample.Op(op, a, b))
	}
	for op, want := range map[int]string{api.Not: "NOT a", api.IsNull: "a IS NULL", api.Neg: "- a", api.Length: "LENGTH ( a )"} {
		mustShow(t, want, sample.Op(op, a))
	}
}

// TestShowBrackets: P8.3, where brackets are needed, as the chapter tells, and where each level meets the next one.
func TestShowBrackets(t *testing.T) {
	op, a, b, c := sample.Op, sample.Col("a"), sample.Col("b"), sample.Col("c")
	for want, e := range map[string]api.Expr{
		"a - ( b - c )":               op(api.Sub, a, op(api.Sub, b, c)),
		"a - b - c":                   op(api.Sub, op(api.Sub, a, b), c),
		"a - ( b + c )":               op(api.Sub, a, op(api.Add, b, c)),
		"a - b + c":                   op(api.Add, op(api.Sub, a, b), c),
		"a OR b OR c":                 op(api.Or, op(api.Or, a, b), c),
		"a OR ( b OR c )":             op(api.Or, a, op(api.Or, b, c)),
		"a OR b AND c":                op(api.Or, a, op(api.And, b, c)),
		"( a OR b ) AND c":            op(api.And, op(api.Or, a, b), c),
		"a AND ( b AND c )":           op(api.And, a, op(api.And, b, c)),
		"NOT a AND b":                 op(api.And, op(api.Not, a), b),
		"a AND NOT b":                 op(api.And, a, op(api.Not, b)),
		"NOT ( a AND b )":             op(api.Not, op(api.And, a, b)),
		"NOT NOT a":                   op(api.Not, op(api.Not, a)),
		"NOT a = b":                   op(api.Not, op(api.Eq, a, b)),
		"( NOT a ) = b":               op(api.Eq, op(api.Not, a), b),
		"a = ( NOT b )":               op(api.Eq, a, op(api.Not, b)),
		"( a = b ) = c":               op(api.Eq, op(api.Eq, a, b), c),
		"a = ( b = c )":               op(api.Eq, a, op(api.Eq, b, c)),
		"( a < b ) >= c":              op(api.Ge, op(api.Lt, a, b), c),
		"( a = b ) IS NULL":           op(api.IsNull, op(api.Eq, a, b)),
		"( a IS NULL ) IS NULL":       op(api.IsNull, op(api.IsNull, a)),
		"( a IS NULL ) = b":           op(api.Eq, op(api.IsNull, a), b),
		"a = ( b IS NULL )":           op(api.Eq, a, op(api.IsNull, b)),
		"NOT a IS NULL":               op(api.Not, op(api.IsNull, a)),
		"( NOT a ) IS NULL":           op(api.IsNull, op(api.Not, a)),
		"- a IS NULL":                 op(api.IsNull, op(api.Neg, a)),
		"- ( a IS NULL )":             op(api.Neg, op(api.IsNull, a)),
		"a || b = c":                  op(api.Eq, op(api.Join, a, b), c),
		"a || ( b = c )":              op(api.Join, a, op(api.Eq, b, c)),
		"a || b || c":                 op(api.Join, op(api.Join, a, b), c),
		"a || ( b || c )":             op(api.Join, a, op(api.Join, b, c)),
		"a || b + c":                  op(api.Join, a, op(api.Add, b, c)),
		"( a || b ) + c":              op(api.Add, op(api.Join, a, b), c),
		"a + b * c":                   op(api.Add, a, op(api.Mul, b, c)),
		"( a + b ) * c":               op(api.Mul, op(api.Add, a, b), c),
		"a / ( b * c )":               op(api.Div, a, op(api.Mul, b, c)),
		"a / b * c":                   op(api.Mul, op(api.Div, a, b), c),
		"- a * b":                     op(api.Mul, op(api.Neg, a), b),
		"a * - b":                     op(api.Mul, a, op(api.Neg, b)),
		"- ( a * b )":                 op(api.Neg, op(api.Mul, a, b)),
		"- - a":                       op(api.Neg, op(api.Neg, a)),
		"a - - b":                     op(api.Sub, a, op(api.Neg, b)),
		"- LENGTH ( a OR b )":         op(api.Neg, op(api.Length, op(api.Or, a, b))),
		"COALESCE ( a OR b , NOT c )": op(api.Coalesce, op(api.Or, a, b), op(api.Not, c)),
		"LENGTH ( LENGTH ( a ) )":     op(api.Length, op(api.Length, a)),
	} {
		mustShow(t, want, e)
	}
}

// bracketed: an expression as a text in which each part stands in brackets.
func bracketed(t *testing.T, e api.Expr) string {
	t.Helper()
	if len(e.Args) == 0 {
		return shown(t, e)
	}
	if e.Op == api.Length {
		return "LENGTH ( ( " + bracketed(t, e.Args[0]) + " ) )"
	}
	if e.Op == api.Coalesce {
		return "COALESCE ( ( " + bracketed(t, e.Args[0]) + " ) , ( " + bracketed(t, e.Args[1]) + " ) )"
	}
	for _, r := range rules() {
		switch {
		case r.op != e.Op:
		case r.left == 0:
			return r.mark + " ( " + bracketed(t, e.Args[0]) + " )"
		case r.right == 0:
			return "( " + bracketed(t, e.Args[0]) + " ) " + r.mark
		default:
			return "( " + bracketed(t, e.Args[0]) + " ) " + r.mark + " ( " + bracketed(t, e.Args[1]) + " )"
		}
	}
	t.Fatalf("no rule for %+v", e)
	return ""
}

// without each pair of brackets, one at a time, but for those of LENGTH and COALESCE.
func without(text string) []string {
	tokens := strings.Fields(text)
	var open []int
	var l []string
	for i, token := range tokens {
		switch token {
		case "(":
			open = append(open, i)
		case ")":
			from := open[len(open)-1]
			open = open[:len(open)-1]
			if from > 0 && (tokens[from-1] == "LENGTH" || tokens[from-1] == "COALESCE") {
				continue
			}
			l = append(l, strings.Join(slices.Concat(tokens[:from], tokens[from+1:i], tokens[i+1:]), " "))
		}
	}
	return l
}

// mustNeedBrackets: the text that an expression is shown as is read as it, by the rules, too, and with a pair of brackets less it is not.
func mustNeedBrackets(t *testing.T, r *readings, e api.Expr) {
	t.Helper()
	text := shown(t, e)
	if strings.Contains(bracketed(t, e), "''") { // quotes may have blanks and brackets, and are no matter of this
		t.Fatalf("%s has a quote", text)
	}
	if again, ok := r.read(t, text); !ok || !reflect.DeepEqual(again, e) {
		t.Fatalf("%+v is shown as %s, which is read as %+v", e, text, again)
	}
	for _, less := range without(text) {
		if again, ok := r.read(t, less); ok && reflect.DeepEqual(again, e) {
			t.Fatalf("%+v is shown as %s, but %s is it, too", e, text, less)
		}
	}
	for _, s := range []string{text, bracketed(t, e)} {
		if again, to, place, why := Ahead(cut(t, s), 0); !reflect.DeepEqual(again, e) || to != len(strings.Fields(s)) || place != 0 || why != api.OK {
			t.Fatalf("Ahead of %s = %+v %d %d %d, want %+v", s, again, to, place, why, e)
		}
	}
}

// TestEachInEach: P8.3, each operation as each part of each other one, in each part of each other one.
func TestEachInEach(t *testing.T) {
	r := readings{found: map[key][]api.Expr{}}
	a := sample.Col("a")
	ops := append(sample.OnOne(), sample.OnTwo()...)
	for _, inner := range ops {
		mustNeedBrackets(t, &r, on(inner, a))
		for _, middle := range ops {
			for side := range sample.PartsOf(middle) {
				e := on(middle, a)
				e.Args[side] = on(inner, a)
				mustNeedBrackets(t, &r, e)
				for _, outer := range ops {
					for outerSide := range sample.PartsOf(outer) {
						whole := on(outer, a)
						whole.Args[outerSide] = e
						mustNeedBrackets(t, &r, whole)
					}
				}
			}
		}
	}
}

// grown: an expression by chance, of at most such a depth.
func grown(chance *rand.Rand, most int) api.Expr {
	l := []api.Expr{sample.Col("a"), sample.Col("b"), sample.Lit(sample.Null()), sample.Lit(sample.Bool(1)), sample.Lit(sample.Bool(0)), sample.Lit(sample.Int(7)), sample.Lit(sample.Real(2)), sample.Lit(sample.Text("x"))}
	if most == 1 || chance.Intn(6) == 0 {
		return l[chance.Intn(len(l))]
	}
	if ops := sample.OnOne(); chance.Intn(3) == 0 {
		return sample.Op(ops[chance.Intn(len(ops))], grown(chance, most-1))
	}
	ops := sample.OnTwo()
	return sample.Op(ops[chance.Intn(len(ops))], grown(chance, most-1), grown(chance, most-1))
}

// mustReadAgain: an expression that may be is read as it was shown; of more than MaxTokens tokens by Ahead alone.
func mustReadAgain(t *testing.T, e api.Expr) {
	t.Helper()
	l, why := Show(e)
	if why != api.OK {
		t.Fatalf("Show(%+v) = %d", e, why)
	}
	if again, to, place, why := Ahead(l, 0); !reflect.DeepEqual(again, e) || to != len(l) || place != 0 || why != api.OK {
		t.Fatalf("Ahead of %s = %+v %d %d %d, want %+v", textOf(t, l), again, to, place, why, e)
	}
	want := api.OK
	if len(l) > api.MaxTokens {
		want, e = api.ErrSize, api.Expr{}
	}
	if again, place, why := Parse(l); !reflect.DeepEqual(again, e) || place != 0 || why != want {
		t.Fatalf("Parse of %s = %+v %d %d, want %+v 0 %d", textOf(t, l), again, place, why, e, want)
	}
}

// TestReadAsShown: what comes of it, of many expressions.
func TestReadAsShown(t *testing.T) {
	for _, e := range shallow() {
		mustReadAgain(t, e)
	}
	chance := rand.New(rand.NewSource(8))
	for range 30000 {
		e := grown(chance, 1+chance.Intn(api.MaxDepth))
		if count(e) > api.MaxNodes {
			mustRefuse(t, e, api.ErrSize)
		} else {
			mustReadAgain(t, e)
		}
	}
}

// wordy: an expression that may be, of more than MaxTokens tokens.
func wordy() api.Expr {
	e := sample.Col("a")
	for range 3 {
		e = sample.Op(api.IsNull, e)
	}
	for range 3 {
		e = sample.Op(api.Coalesce, e, e)
	}
	return e
}

// TestShowManyTokens: P8.3, more tokens than others take are no fault.
func TestShowManyTokens(t *testing.T) {
	if l, why := Show(wordy()); why != api.OK || len(l) != 116 {
		t.Errorf("Show = %d tokens, %d", len(l), why)
	}
	mustReadAgain(t, wordy())
}

// TestBracketsByChance: P8.3, just those brackets that are needed, in larger expressions.
func TestBracketsByChance(t *testing.T) {
	chance := rand.New(rand.NewSource(3))
	for range 1500 {
		e := grown(chance, 5)
		if count(e) > 14 {
			continue
		}
		r := readings{found: map[key][]api.Expr{}}
		mustNeedBrackets(t, &r, e)
	}
}

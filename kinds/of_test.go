package kinds

import (
	"slices"
	"testing"

	"chirograph/api"
	"chirograph/expr"
	"chirograph/lex"
	"chirograph/sample"
)

// nullable columns: one of each Kind, and one more.
func nullable() []api.Column {
	return []api.Column{sample.Column("b", api.Bool), sample.Column("i", api.Int), sample.Column("r", api.Real), sample.Column("t", api.Text), sample.Filled("x", api.Int)}
}

// filled: the same ones, but none may be null.
func filled() []api.Column {
	l := nullable()
	for i := range l {
		l[i].Null = false
	}
	return l
}

// exprOf a text, which must be one.
func exprOf(t *testing.T, text string) api.Expr {
	t.Helper()
	l, _, f := lex.Cut(text)
	e, _, why := expr.Parse(l)
	if f != api.OK || why != api.OK {
		t.Fatalf("%q is no expression: %d %d", text, f, why)
	}
	return e
}

// mustBe: an expression's Kind, and whether it may be null.
func mustBe(t *testing.T, kind int, null bool, e api.Expr, cols []api.Column) {
	t.Helper()
	if k, n, f := Of(e, cols); k != kind || n != null || f != api.OK {
		t.Errorf("Of(%+v, %+v) = %d %t %d, want %d %t 0", e, cols, k, n, f, kind, null)
	}
}

// mustRefuse an expression, with nothing else told.
func mustRefuse(t *testing.T, want api.Errno, e api.Expr, cols []api.Column) {
	t.Helper()
	if k, n, f := Of(e, cols); k != 0 || n || f != want {
		t.Errorf("Of(%+v, %+v) = %d %t %d, want 0 false %d", e, cols, k, n, f, want)
	}
}

// TestLeaves: P9.2, literals and columns.
func TestLeaves(t *testing.T) {
	for kind := api.Null; kind <= api.Text; kind++ {
		for _, v := range valuesOf(kind) {
			if v.Int >= 0 {
				mustBe(t, kind, kind == api.Null, sample.Lit(v), nil)
				mustBe(t, kind, kind == api.Null, sample.Lit(v), nullable())
			}
		}
	}
	for n := range api.MaxCols + 1 {
		cols := good(n)
		for _, c := range cols {
			mustBe(t, c.Kind, c.Null, sample.Col(c.Name), cols)
		}
		for _, name := range []string{"x", "aa", "b", "b1", "abcdefg", "nul"} {
			mustRefuse(t, api.ErrNone, sample.Col(name), cols)
		}
	}
	mustRefuse(t, api.ErrNone, sample.Col("a"), nil)
	mustRefuse(t, api.ErrNone, sample.Col("a"), []api.Column{})
}

// TestTexts: P9.2, of expressions as they are written.
func TestTexts(t *testing.T) {
	const none, clash = -1, -2 // there is no such column; Kinds clash
	for _, c := range []struct {
		text string
		kind int
		null bool // if columns may be; of columns that may not be null nothing here is null
	}{
		{"- i", api.Int, true}, {"i + x", api.Int, true}, {"i - 1", api.Int, true}, {"2 * i", api.Int, true}, {"1 / i", api.Int, true},
		{"NOT b", api.Bool, true}, {"b AND TRUE", api.Bool, true}, {"FALSE AND b", api.Bool, true}, {"TRUE OR b", api.Bool, true},
		{"i = 1", api.Bool, true}, {"r <> #3ff0000000000000", api.Bool, true}, {"t < 'x'", api.Bool, true}, {"b <= TRUE", api.Bool, true}, {"i > i", api.Bool, true}, {"t >= t", api.Bool, true},
		{"b IS NULL", api.Bool, false}, {"i IS NULL", api.Bool, false}, {"r IS NULL", api.Bool, false}, {"t IS NULL", api.Bool, false}, {"( i = 1 ) IS NULL", api.Bool, false},
		{"LENGTH ( t )", api.Int, true}, {"t || 'x'", api.Text, true}, {"LENGTH ( t || t ) + 1", api.Int, true},
		{"COALESCE ( i , 1 )", api.Int, false}, {"COALESCE ( i , i )", api.Int, true}, {"COALESCE ( 1 , i )", api.Int, false}, {"COALESCE ( r , r )", api.Real, true},
		{"COALESCE ( COALESCE ( t , t ) , 'x' ) || 'y'", api.Text, false}, {"COALESCE ( b , i IS NULL ) AND TRUE", api.Bool, false},
		{"x + 1", api.Int, false}, {"x = 1 AND TRUE", api.Bool, false}, {"- x IS NULL", api.Bool, false}, {"NOT ( x = 1 )", api.Bool, false},
		{"i + t", clash, false}, {"- b", clash, false}, {"- r", clash, false}, {"r + r", clash, false}, {"r * 2", clash, false}, {"t + t", clash, false}, {"b - 1", clash, false}, {"1 / #3ff0000000000000", clash, false},
		{"NOT i", clash, false}, {"i AND b", clash, false}, {"b OR t", clash, false}, {"r AND r", clash, false},
		{"LENGTH ( i )", clash, false}, {"LENGTH ( b )", clash, false}, {"i || i", clash, false}, {"t || 1", clash, false},
		{"i = r", clash, false}, {"i = b", clash, false}, {"t < r", clash, false}, {"COALESCE ( i , r )", clash, false}, {"COALESCE ( t , b )", clash, false},
		{"( i + t ) IS NULL", clash, false}, {"COALESCE ( NULL , - t )", clash, false},
		{"y", none, false}, {"y IS NULL", none, false}, {"COALESCE ( NULL , y )", none, false}, {"LENGTH ( y )", none, false}, {"i + t = y", clash, false}, {"y = i + t", none, false}, {"NOT ( i + y )", none, false},
	} {
		e := exprOf(t, c.text)
		for _, cols := range [][]api.Column{nullable(), filled()} {
			switch c.kind {
			case none:
				mustRefuse(t, api.ErrNone, e, cols)
			case clash:
				mustRefuse(t, api.ErrKind, e, cols)
			default:
				mustBe(t, c.kind, c.null && cols[0].Null, e, cols)
			}
		}
	}
}

// TestNulls: P9.2, Null fits everywhere, and gives what the operation gives.
func TestNulls(t *testing.T) {
	null := sample.Lit(sample.Null())
	for _, c := range []struct {
		ops  []int
		kind int
		null bool
	}{
		{[]int{api.Neg, api.Add, api.Sub, api.Mul, api.Div, api.Length}, api.Int, true},
		{[]int{api.Not, api.And, api.Or, api.Eq, api.Ne, api.Lt, api.Le, api.Gt, api.Ge}, api.Bool, true},
		{[]int{api.Join}, api.Text, true},
		{[]int{api.IsNull}, api.Bool, false},
		{[]int{api.Coalesce}, api.Null, true},
	} {
		for _, op := range c.ops {
			mustBe(t, c.kind, c.null, sample.Op(op, slices.Repeat([]api.Expr{null}, sample.PartsOf(op))...), nil)
		}
	}
	for _, c := range nullable() {
		for _, l := range [][]api.Expr{{null, sample.Col(c.Name)}, {sample.Col(c.Name), null}} {
			mustBe(t, c.Kind, c.Null, sample.Op(api.Coalesce, l...), nullable())
			for op := api.Eq; op <= api.Ge; op++ {
				mustBe(t, api.Bool, true, sample.Op(op, l...), nullable())
			}
		}
	}
	inner := sample.Op(api.Coalesce, null, null)
	mustBe(t, api.Int, true, sample.Op(api.Add, inner, inner), nil)
	mustBe(t, api.Text, false, sample.Op(api.Coalesce, inner, sample.Lit(sample.Text(""))), nil)
}

// wrongExprs: expressions that may not be, and why.
func wrongExprs() map[api.Errno][]api.Expr {
	one, missing := sample.Lit(sample.Int(1)), sample.Col("y")
	deep := sample.Op(api.Not, one)
	for range api.MaxDepth - 1 {
		deep = sample.Op(api.Not, deep)
	}
	itself := make([]api.Expr, 1)
	itself[0] = sample.Op(api.Neg, itself...)
	return map[api.Errno][]api.Expr{
		api.ErrSize: {deep, itself[0], sample.Op(api.Add, missing, deep), sample.Op(api.Add, make([]api.Expr, api.MaxNodes)...), sample.Op(0, deep)},
		api.ErrKind: {{}, sample.Op(21, one), sample.Op(-1), sample.Op(api.Add, sample.Op(api.Join, one, one), api.Expr{}), sample.Op(api.Eq, missing, sample.Op(257))},
		api.ErrForm: {
			sample.Col("A"), sample.Col(""), sample.Lit(sample.Int(-1)), sample.Lit(api.Value{Kind: 9}), sample.Op(api.Neg), sample.Op(api.Neg, one, one), sample.Op(api.Add, one), sample.Op(api.Lit, one),
			sample.Op(api.Add, missing, sample.Op(api.Coalesce, one)), sample.Op(api.Join, one, sample.Col("1")), {Op: api.Col, Name: "a", Value: sample.Int(1)},
		},
	}
}

// TestExpressionFirst: P9.2, what expr's Check refuses is told ahead of all else.
func TestExpressionFirst(t *testing.T) {
	lists := [][]api.Column{nil, nullable(), {{}}, make([]api.Column, api.MaxCols+1), {sample.Filled("a", api.Int), sample.Filled("a", api.Int)}, {sample.Filled("a", 9)}}
	for want, l := range wrongExprs() {
		for _, e := range l {
			if f := expr.Check(e); f != want {
				t.Fatalf("expr.Check(%+v) = %d, want %d", e, f, want)
			}
			for _, cols := range lists {
				mustRefuse(t, want, e, cols)
			}
		}
	}
}

// sums: an expression of numbers alone, without a fault.
func sums() api.Expr {
	x := sample.Col("x")
	twig := func() api.Expr { return sample.Op(api.Mul, sample.Op(api.Neg, x), sample.Op(api.Add, x, x)) }
	return sample.Op(api.Coalesce, sample.Op(api.Sub, twig(), twig()), sample.Op(api.Neg, twig()))
}

// behind: an expression's parts, then itself, from left to right, all the way down.
func behind(e *api.Expr) []*api.Expr {
	var l []*api.Expr
	for i := range e.Args {
		l = append(l, behind(&e.Args[i])...)
	}
	return append(l, e)
}

// spoil an expression of numbers, whose parts stay as they are: a column is none, an operation asks for texts.
func spoil(e *api.Expr) api.Errno {
	switch len(e.Args) {
	case 0:
		e.Name = "y"
		return api.ErrNone
	case 1:
		e.Op = api.Length
	default:
		e.Op = api.Join
	}
	return api.ErrKind
}

// TestFirstFault: P9.2, parts ahead of what they are parts of, from left to right: whichever fault stands first is told.
func TestFirstFault(t *testing.T) {
	e := sums()
	mustBe(t, api.Int, false, e, filled())
	n := len(behind(&e))
	for i := range n {
		for j := range i + 1 {
			e := sums()
			l := behind(&e)
			spoil(l[i])
			mustRefuse(t, spoil(l[j]), e, filled())
		}
	}
}

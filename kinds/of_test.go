package kinds

import (
	"slices"
	"testing"

	"chirograph/api"
	"chirograph/expr"
	"chirograph/sample"
	"chirograph/written"
)

// mustBe: an expression's Kind, and whether it may be null.
func mustBe(t *testing.T, kind int, null bool, e api.Expr, cols []api.Column) {
	t.Helper()
	if k, n, f := Of(e, cols); k != kind || n != null || f != api.OK {
		t.Errorf("Of(%+v, %+v) = %d %t %d, want %d %t 0", e, cols, k, n, f, kind, null)
	}
}

// mustRefuse an expression, with nothing else told.
func mustRefuse(t *testing.T, want api.Errno, e api.Expr, cols []api.Column) {
	t.Helper()
	if k, n, f := Of(e, cols); k != 0 || n || f != want {
		t.Errorf("Of(%+v, %+v) = %d %t %d, want 0 false %d", e, cols, k, n, f, want)
	}
}

// TestLeaves: P9.2, literals and columns.
func TestLeaves(t *testing.T) {
	for kind := api.Null; kind <= api.Text; kind++ {
		for _, v := range sample.ValuesOf(kind) {
			if v.Int >= 0 {
				mustBe(t, kind, kind == api.Null, sample.Lit(v), nil)
				mustBe(t, kind, kind == api.Null, sample.Lit(v), sample.Columns())
			}
		}
	}
	for n := range api.MaxCols + 1 {
		cols := good(n)
		for _, c := range cols {
			mustBe(t, c.Kind, c.Null, sample.Col(c.Name), cols)
		}
		for _, name := range []string{"x", "aa", "b", "b1", "abcdefg", "nul"} {
			mustRefuse(t, api.ErrNone, sample.Col(name), cols)
		}
	}
	mustRefuse(t, api.ErrNone, sample.Col("a"), nil)
	mustRefuse(t, api.ErrNone, sample.Col("a"), []api.Column{})
}

// TestTexts: P9.2, of expressions as they are written.
func TestTexts(t *testing.T) {
	const none, clash = -1, -2 // there is no such column; Kinds clash
	for _, c := range []struct {
		text string
		kind int
		null bool // if columns may be; of columns that may not be null nothing here is null
	}{
		{"- i", api.Int, true}, {"i + x", api.Int, true}, {"i - 1", api.Int, true}, {"2 * i", api.Int, true}, {"1 / i", api.Int, true},
		{"NOT b", api.Bool, true}, {"b AND TRUE", api.Bool, true}, {"FALSE AND b", api.Bool, true}, {"TRUE OR b", api.Bool, true},
		{"i = 1", api.Bool, true}, {"r <> #3ff0000000000000", api.Bool, true}, {"t < 'x'", api.Bool, true}, {"b <= TRUE", api.Bool, true}, {"i > i", api.Bool, true}, {"t >= t", api.Bool, true},
		{"b IS NULL", api.Bool, false}, {"i IS NULL", api.Bool, false}, {"r IS NULL", api.Bool, false}, {"t IS NULL", api.Bool, false}, {"( i = 1 ) IS NULL", api.Bool, false},
		{"LENGTH ( t )", api.Int, true}, {"t || 'x'", api.Text, true}, {"LENGTH ( t || t ) + 1", api.Int, true},
		{"COALESCE ( i , 1 )", api.Int, false}, {"COALESCE ( i , i )", api.Int, true}, {"COALESCE ( 1 , i )", api.Int, false}, {"COALESCE ( r , r )", api.Real, true},
		{"COALESCE ( COALESCE ( t , t ) , 'x' ) || 'y'", api.Text, false}, {"COALESCE ( b , i IS NULL ) AND TRUE", api.Bool, false},
		{"x + 1", api.Int, false}, {"x = 1 AND TRUE", api.Bool, false}, {"- x IS NULL", api.Bool, false}, {"NOT ( x = 1 )", api.Bool, false},
		{"i + t", clash, false}, {"- b", clash, false}, {"- r", clash, false}, {"r + r", clash, false}, {"r * 2", clash, false}, {"t + t", clash, false}, {"b - 1", clash, false}, {"1 / #3ff0000000000000", clash, false},
		{"NOT i", clash, false}, {"i AND b", clash, false}, {"b OR t", clash, false}, {"r AND r", clash, false},
		{"LENGTH ( i )", clash, false}, {"LENGTH ( b )", clash, false}, {"i || i", clash, false}, {"t || 1", clash, false},
		{"i = r", clash, false}, {"i = b", clash, false}, {"t < r", clash, false}, {"COALESCE ( i , r )", clash, false}, {"COALESCE ( t , b )", clash, false},
		{"( i + t ) IS NULL", clash, false}, {"COALESCE ( NULL , - t )", clash, false},
		{"y", none, false}, {"y IS NULL", none, false}, {"COALESCE ( NULL , y )", none, false}, {"LENGTH ( y )", none, false}, {"i + t = y", clash, false}, {"y = i + t", none, false}, {"NOT ( i + y )", none, false},
	} {
		e := written.Expr(c.text)
		for _, cols := range [][]api.Column{sample.Columns(), sample.FilledColumns()} {
			switch c.kind {
			case none:
				mustRefuse(t, api.ErrNone, e, cols)
			case clash:
				mustRefuse(t, api.ErrKind, e, cols)
			default:
				mustBe(t, c.kind, c.null && cols[0].Null, e, cols)
			}
		}
	}
}

// TestNulls: P9.2, Null fits everywhere, and gives what the operation gives.
func TestNulls(t *testing.T) {
	null := sample.Lit(sample.Null())
	for _, c := range []struct {
		ops  []int
		kind int
		null bool
	}{
		{[]int{api.Neg, api.Add, api.Sub, api.Mul, api.Div, api.Length}, api.Int, true},
		{[]int{api.Not, api.And, api.Or, api.Eq, api.Ne, api.Lt, api.Le, api.Gt, api.Ge}, api.Bool, true},
		{[]int{api.Join}, api.Text, true},
		{[]int{api.IsNull}, api.Bool, false},
		{[]int{api.Coalesce}, api.Null, true},
	} {
		for _, op := range c.ops {
			mustBe(t, c.kind, c.null, sample.Op(op, slices.Repeat([]api.Expr{null}, sample.PartsOf(op))...), nil)
		}
	}
	for _, c := range sample.Columns() {
		for _, l := range [][]api.Expr{{null, sample.Col(c.Name)}, {sample.Col(c.Name), null}} {
			mustBe(t, c.Kind, c.Null, sample.Op(api.Coalesce, l...), sample.Columns())
			for op := api.Eq; op <= api.Ge; op++ {
				mustBe(t, api.Bool, true, sample.Op(op, l...), sample.Columns())
			}
		}
	}
	inner := sample.Op(api.Coalesce, null, null)
	mustBe(t, api.Int, true, sample.Op(api.Add, inner, inner), nil)
	mustBe(t, api.Text, false, sample.Op(api.Coalesce, inner, sample.Lit(sample.Text(""))), nil)
}

// TestExpressionFirst: P9.2, what expr's Check refuses is told ahead of all else.
func TestExpressionFirst(t *testing.T) {
	lists := [][]api.Column{nil, sample.Columns(), {{}}, make([]api.Column, api.MaxCols+1), {sample.Filled("a", api.Int), sample.Filled("a", api.Int)}, {sample.Filled("a", 9)}}
	for want, l := range sample.WrongExprs() {
		for _, e := range l {
			if f := expr.Check(e); f != want {
				t.Fatalf("expr.Check(%+v) = %d, want %d", e, f, want)
			}
			for _, cols := range lists {
				mustRefuse(t, want, e, cols)
			}
		}
	}
}

// sums: an expression of numbers alone, without a fault.
func sums() api.Expr {
	x := sample.Col("x")
	twig := func() api.Expr { return sample.Op(api.Mul, sample.Op(api.Neg, x), sample.Op(api.Add, x, x)) }
	return sample.Op(api.Coalesce, sample.Op(api.Sub, twig(), twig()), sample.Op(api.Neg, twig()))
}

// spoil an expression of numbers, whose parts stay as they are: a column is none, an operation asks for texts.
func spoil(e *api.Expr) api.Errno {
	switch len(e.Args) {
	case 0:
		e.Name = "y"
		return api.ErrNone
	case 1:
		e.Op = api.Length
	default:
		e.Op = api.Join
	}
	return api.ErrKind
}

// TestFirstFault: P9.2, parts ahead of what they are parts of, from left to right: whichever fault stands first is told.
func TestFirstFault(t *testing.T) {
	e := sums()
	mustBe(t, api.Int, false, e, sample.FilledColumns())
	n := len(sample.Behind(&e))
	for i := range n {
		for j := range i + 1 {
			e := sums()
			l := sample.Behind(&e)
			spoil(l[i])
			mustRefuse(t, spoil(l[j]), e, sample.FilledColumns())
		}
	}
}

package eval

import (
	"math"
	"math/rand"
	"reflect"
	"slices"
	"strings"
	"testing"

	"chirograph/api"
	"chirograph/expr"
	"chirograph/kinds"
	"chirograph/sample"
	"chirograph/written"
)

// mustSay a value, without a fault.
func mustSay(t *testing.T, want api.Value, e api.Expr, cols []api.Column, row []api.Value) {
	t.Helper()
	if v, why := Eval(e, cols, row); v != want || why != api.OK {
		t.Errorf("Eval(%+v, %+v, %+v) = %+v %d, want %+v 0", e, cols, row, v, why, want)
	}
}

// mustRefuse, with nothing else told.
func mustRefuse(t *testing.T, want api.Errno, e api.Expr, cols []api.Column, row []api.Value) {
	t.Helper()
	if v, why := Eval(e, cols, row); v != sample.Null() || why != want {
		t.Errorf("Eval(%+v, %+v, %+v) = %+v %d, want none %d", e, cols, row, v, why, want)
	}
}

// sampleRow that fits the columns of package sample.
func sampleRow() []api.Value {
	return []api.Value{sample.Bool(1), sample.Int(-7), sample.Real(1.5), sample.Text("it's \u00e9"), sample.Int(math.MinInt)}
}

// nullRow that fits them, too: with a null wherever one may be.
func nullRow() []api.Value {
	return []api.Value{{}, {}, {}, {}, sample.Int(3)}
}

// allValues of all Kinds.
func allValues() []api.Value {
	var l []api.Value
	for kind := api.Null; kind <= api.Text; kind++ {
		l = append(l, sample.ValuesOf(kind)...)
	}
	return l
}

// columnFor a value, that may be null.
func columnFor(name string, v api.Value) api.Column {
	return sample.Column(name, max(v.Kind, api.Bool))
}

// TestLeaves: P10.1, a literal is its value, a column what the row has there.
func TestLeaves(t *testing.T) {
	for _, v := range allValues() {
		if v.Int >= 0 {
			mustSay(t, v, sample.Lit(v), nil, nil)
			mustSay(t, v, sample.Lit(v), sample.Columns(), sampleRow())
		}
		mustSay(t, v, sample.Col("a"), []api.Column{columnFor("a", v)}, []api.Value{v})
	}
	for _, row := range [][]api.Value{sampleRow(), nullRow()} {
		for i, c := range sample.Columns() {
			mustSay(t, row[i], sample.Col(c.Name), sample.Columns(), row)
			mustRefuse(t, api.ErrNone, sample.Col(c.Name), sample.Columns()[:i], row[:i])
		}
	}
	for _, name := range []string{"y", "bb", "i1", "null", "abcdefgh"} {
		mustRefuse(t, api.ErrNone, sample.Col(name), sample.Columns(), sampleRow())
		mustRefuse(t, api.ErrNone, sample.Col(name), nil, nil)
	}
}

// said of a text: a value, or why there is none.
type said struct {
	text  string
	value api.Value
	why   api.Errno
}

// mustSayTexts in a row of the columns of package sample.
func mustSayTexts(t *testing.T, row []api.Value, l []said) {
	t.Helper()
	for _, s := range l {
		if v, why := Eval(written.Expr(s.text), sample.Columns(), row); v != s.value || why != s.why {
			t.Errorf("%s is %+v %d, want %+v %d", s.text, v, why, s.value, s.why)
		}
	}
}

// TestTexts: P10.2 and P10.3, of expressions as they are written, without nulls.
func TestTexts(t *testing.T) {
	yes, no, null, n, text := sample.Bool(1), sample.Bool(0), sample.Null(), sample.Int, sample.Text
	mustSayTexts(t, sampleRow(), []said{
		{"FALSE AND 1 / 0 = 1", no, 0}, {"1 / 0 = 1 AND FALSE", null, api.ErrZero}, {"- 7 / 2", n(-3), 0},
		{"i / 2", n(-3), 0}, {"i / - 2", n(3), 0}, {"7 / - 2", n(-3), 0}, {"i + 10", n(3), 0}, {"3 - i", n(10), 0}, {"i * i", n(49), 0}, {"- i", n(7), 0}, {"- - i", n(-7), 0},
		{"x", n(math.MinInt), 0}, {"- x", null, api.ErrRange}, {"x - 1", null, api.ErrRange}, {"x / - 1", null, api.ErrRange}, {"x * - 1", null, api.ErrRange}, {"- 1 * x", null, api.ErrRange}, {"x / 1", n(math.MinInt), 0}, {"x / x", n(1), 0}, {"x / 0", null, api.ErrZero}, {"0 / 0", null, api.ErrZero},
		{"b AND TRUE", yes, 0}, {"b AND FALSE", no, 0}, {"NOT b", no, 0}, {"NOT NOT b", yes, 0}, {"FALSE OR b", yes, 0}, {"FALSE OR FALSE", no, 0}, {"FALSE OR NOT b", no, 0},
		{"i IS NULL", no, 0}, {"NULL IS NULL", yes, 0}, {"y IS NULL", null, api.ErrNone}, {"( 1 / 0 ) IS NULL", null, api.ErrZero}, {"- t IS NULL", null, api.ErrKind},
		{"LENGTH ( t )", n(6), 0}, {"LENGTH ( '' )", n(0), 0}, {"t || '!'", text("it's \u00e9!"), 0}, {"'' || ''", text(""), 0},
		{"i = - 7", yes, 0}, {"i <> - 7", no, 0}, {"i < 0", yes, 0}, {"i <= - 7", yes, 0}, {"i > - 8", yes, 0}, {"i >= - 6", no, 0}, {"FALSE < TRUE", yes, 0}, {"t < 'iu'", yes, 0}, {"t >= 'it'", yes, 0}, {"r > #3ff0000000000000", yes, 0}, {"r < #7ff0000000000000", yes, 0},
		{"1 = 'x'", null, api.ErrKind}, {"r = 1", null, api.ErrKind}, {"b = 1", null, api.ErrKind}, {"t < TRUE", null, api.ErrKind}, {"i <> r", null, api.ErrKind},
		{"COALESCE ( i , 1 )", n(-7), 0}, {"COALESCE ( NULL , 'x' )", text("x"), 0}, {"COALESCE ( NULL , NULL )", null, 0}, {"COALESCE ( i , y )", n(-7), 0}, {"COALESCE ( i , t )", n(-7), 0}, {"COALESCE ( NULL , y )", null, api.ErrNone}, {"COALESCE ( y , 1 )", null, api.ErrNone},
		{"FALSE AND y", no, 0}, {"TRUE AND y", null, api.ErrNone}, {"TRUE OR y", yes, 0}, {"FALSE OR y", null, api.ErrNone}, {"y OR TRUE", null, api.ErrNone},
		{"FALSE AND 1", no, 0}, {"TRUE AND 1", null, api.ErrKind}, {"1 AND FALSE", null, api.ErrKind}, {"0 AND TRUE", null, api.ErrKind}, {"1 AND y", null, api.ErrNone}, {"1 OR 1 / 0", null, api.ErrZero}, {"TRUE OR 1", yes, 0}, {"FALSE OR 1", null, api.ErrKind}, {"1 OR TRUE", null, api.ErrKind}, {"'x' AND r", null, api.ErrKind},
		{"t + y", null, api.ErrNone}, {"y + t", null, api.ErrNone}, {"t + 1 / 0", null, api.ErrZero}, {"t + i", null, api.ErrKind}, {"i + b", null, api.ErrKind}, {"NOT i", null, api.ErrKind}, {"- r", null, api.ErrKind}, {"LENGTH ( i )", null, api.ErrKind}, {"t || i", null, api.ErrKind}, {"i || t", null, api.ErrKind}, {"r * r", null, api.ErrKind},
	})
}

// TestNulls: P10.2, of expressions as they are written, with nulls.
func TestNulls(t *testing.T) {
	yes, no, null := sample.Bool(1), sample.Bool(0), sample.Null()
	mustSayTexts(t, nullRow(), []said{
		{"NULL AND FALSE", no, 0}, {"FALSE AND NULL", no, 0}, {"b AND TRUE", null, 0}, {"TRUE AND b", null, 0}, {"b AND b", null, 0}, {"b OR TRUE", yes, 0}, {"TRUE OR b", yes, 0}, {"b OR FALSE", null, 0}, {"FALSE OR b", null, 0}, {"b OR NULL", null, 0}, {"NOT b", null, 0}, {"NOT NULL", null, 0},
		{"b AND 1", null, api.ErrKind}, {"1 AND b", null, api.ErrKind}, {"b OR 'x'", null, api.ErrKind}, {"NULL AND y", null, api.ErrNone}, {"NULL OR 1 / 0 = 1", null, api.ErrZero},
		{"- i", null, 0}, {"i + 1", null, 0}, {"1 - i", null, 0}, {"i * i", null, 0}, {"i / 0", null, 0}, {"1 / i", null, 0}, {"NULL / 0", null, 0}, {"i + t", null, 0}, {"i + 'x'", null, api.ErrKind}, {"TRUE * NULL", null, api.ErrKind}, {"NULL + 1 / 0", null, api.ErrZero}, {"NULL + y", null, api.ErrNone},
		{"LENGTH ( t )", null, 0}, {"LENGTH ( NULL )", null, 0}, {"t || 'x'", null, 0}, {"'x' || t", null, 0}, {"NULL || 1", null, api.ErrKind}, {"1 || NULL", null, api.ErrKind},
		{"NULL = NULL", null, 0}, {"NULL = 'x'", null, 0}, {"i < 'x'", null, 0}, {"1 >= t", null, 0}, {"r <> i", null, 0}, {"NULL > y", null, api.ErrNone}, {"NULL <= 1 / 0", null, api.ErrZero},
		{"i IS NULL", yes, 0}, {"x IS NULL", no, 0}, {"( i = 1 ) IS NULL", yes, 0}, {"( i IS NULL ) IS NULL", no, 0}, {"b AND FALSE IS NULL", no, 0}, {"( b AND TRUE ) IS NULL", yes, 0},
		{"COALESCE ( i , x )", sample.Int(3), 0}, {"COALESCE ( t , i )", null, 0}, {"COALESCE ( b , i IS NULL )", yes, 0}, {"COALESCE ( i , y )", null, api.ErrNone}, {"COALESCE ( i , 'x' )", sample.Text("x"), 0}, {"COALESCE ( COALESCE ( i , r ) , t ) IS NULL", yes, 0},
	})
}

// faulty: columns and rows that are refused.
type faulty struct {
	cols []api.Column
	row  []api.Value
}

// wrongRows: each fault of P9.3.
func wrongRows() []faulty {
	l := []faulty{
		{make([]api.Column, api.MaxCols+1), nil}, {[]api.Column{{}}, nil}, {[]api.Column{sample.Filled("A", api.Int)}, []api.Value{sample.Int(1)}},
		{[]api.Column{sample.Filled("a", api.Null)}, []api.Value{{}}}, {[]api.Column{sample.Filled("a", 9)}, []api.Value{{Kind: 9}}},
		{[]api.Column{sample.Filled("a", api.Int), sample.Filled("a", api.Int)}, []api.Value{sample.Int(1), sample.Int(1)}},
		{sample.Columns(), nil}, {sample.Columns(), sampleRow()[1:]}, {nil, sampleRow()}, {sample.Columns(), append(sampleRow(), sample.Int(1))},
		{sample.FilledColumns(), nullRow()}, {sample.Columns(), make([]api.Value, api.MaxCols)},
	}
	for i := range sample.Columns() {
		for _, v := range []api.Value{{Kind: -1}, {Kind: 257}, {Int: 1}, {Kind: api.Text, Text: sample.Long(api.MaxText + 1)}, sample.Bool(2), sample.Bits(1 << 63), sample.Text("\xff")} {
			row := sampleRow()
			row[i] = v
			l = append(l, faulty{sample.Columns(), row})
		}
		row := sampleRow()
		row[i], row[(i+1)%len(row)] = row[(i+1)%len(row)], row[i]
		l = append(l, faulty{sample.Columns(), row})
	}
	return l
}

// TestWhatIsAskedFirst: P10.1, what expr's Check refuses, then what kinds' Row refuses, whatever the expression would say.
func TestWhatIsAskedFirst(t *testing.T) {
	rows := append(wrongRows(), faulty{nil, nil}, faulty{sample.Columns(), sampleRow()})
	for want, l := range sample.WrongExprs() {
		for _, e := range l {
			if why := expr.Check(e); why != want {
				t.Fatalf("expr.Check(%+v) = %d, want %d", e, why, want)
			}
			for _, r := range rows {
				mustRefuse(t, want, e, r.cols, r.row)
			}
		}
	}
	faults := map[api.Errno]int{}
	for _, r := range wrongRows() {
		want := kinds.Row(r.row, r.cols)
		faults[want]++
		for _, text := range []string{"1", "NULL", "i", "y", "1 / 0", "NOT 1", "TRUE OR a = 1", "- x", "COALESCE ( 1 , b )"} {
			mustRefuse(t, want, written.Expr(text), r.cols, r.row)
		}
	}
	if faults[api.OK] > 0 || len(faults) != 5 {
		t.Errorf("rows are refused so: %v", faults)
	}
}

// TestEachOperation: P10.2, each operation on each two values, by columns and, where they may stand so, by literals.
func TestEachOperation(t *testing.T) {
	a, b := sample.Col("a"), sample.Col("b")
	for _, v := range allValues() {
		for _, op := range sample.OnOne() {
			mustAgree(t, sample.Op(op, a), []api.Column{columnFor("a", v)}, []api.Value{v})
			if v.Int >= 0 {
				mustAgree(t, sample.Op(op, sample.Lit(v)), nil, nil)
			}
		}
		for _, w := range allValues() {
			cols, row := []api.Column{columnFor("a", v), columnFor("b", w)}, []api.Value{v, w}
			for _, op := range sample.OnTwo() {
				mustAgree(t, sample.Op(op, a, b), cols, row)
				mustAgree(t, sample.Op(op, b, a), cols, row)
				mustAgree(t, sample.Op(op, a, a), cols, row)
				if v.Int >= 0 && w.Int >= 0 {
					mustAgree(t, sample.Op(op, sample.Lit(v), sample.Lit(w)), nil, nil)
				}
			}
		}
	}
}

// TestOnEachOther: P10.2, each operation on each leaf, and each one on what these say, on each side.
func TestOnEachOther(t *testing.T) {
	shallow := sample.Leaves()
	for _, a := range sample.Leaves() {
		for _, op := range sample.OnOne() {
			shallow = append(shallow, sample.Op(op, a))
		}
		for _, op := range sample.OnTwo() {
			for _, b := range sample.Leaves() {
				shallow = append(shallow, sample.Op(op, a, b))
			}
		}
	}
	for _, row := range [][]api.Value{sampleRow(), nullRow()} {
		for _, e := range shallow {
			mustAgree(t, e, sample.Columns(), row)
			for _, op := range sample.OnOne() {
				mustAgree(t, sample.Op(op, e), sample.Columns(), row)
			}
			for _, op := range sample.OnTwo() {
				for _, leaf := range sample.Leaves() {
					mustAgree(t, sample.Op(op, e, leaf), sample.Columns(), row)
					mustAgree(t, sample.Op(op, leaf, e), sample.Columns(), row)
				}
			}
		}
	}
}

// edges of numbers: where sums, products and quotients leave 64 bits, or just do not.
func edges(chance *rand.Rand) []int {
	l := []int{0, 1, 2, 3, 7, 10, 1 << 31, 1 << 32, 1<<32 - 1, 3037000499, 3037000500, 1 << 61, 1 << 62, 1<<62 + 1, math.MaxInt / 3, math.MaxInt - 1, math.MaxInt}
	for range 15 {
		l = append(l, int(chance.Uint64()>>(1+chance.Intn(62))))
	}
	for _, n := range slices.Clone(l) {
		l = append(l, -n, -n-1)
	}
	return l
}

// TestNumbers: P10.3, each operation on each two of many numbers.
func TestNumbers(t *testing.T) {
	cols := []api.Column{sample.Filled("a", api.Int), sample.Filled("b", api.Int)}
	counts := map[api.Errno]int{}
	l := edges(rand.New(rand.NewSource(10)))
	for _, n := range l {
		for _, m := range l {
			row := []api.Value{sample.Int(n), sample.Int(m)}
			for _, op := range []int{api.Add, api.Sub, api.Mul, api.Div} {
				_, why := mustAgree(t, sample.Op(op, sample.Col("a"), sample.Col("b")), cols, row)
				counts[why]++
			}
		}
		mustAgree(t, sample.Op(api.Neg, sample.Col("a")), cols[:1], []api.Value{sample.Int(n)})
	}
	for _, why := range []api.Errno{api.OK, api.ErrRange, api.ErrZero} {
		if counts[why] < 100 {
			t.Errorf("of errors there were %v", counts)
		}
	}
}

// TestTextLengths: P10.2, texts of all lengths joined, of signs of one byte to four, and their signs counted.
func TestTextLengths(t *testing.T) {
	cols := []api.Column{sample.Filled("a", api.Text), sample.Filled("b", api.Text)}
	joined := sample.Op(api.Join, sample.Col("a"), sample.Col("b"))
	for _, sign := range []string{"x", "\u00e9", "\u20ac", "\U0001f600", "\x00", "\ufffd"} {
		most := api.MaxText / len(sign)
		for n := range most + 1 {
			mustSay(t, sample.Int(n), sample.Op(api.Length, sample.Col("a")), cols[:1], []api.Value{sample.Text(strings.Repeat(sign, n))})
			for m := range most + 1 {
				row := []api.Value{sample.Text(strings.Repeat(sign, n)), sample.Text(strings.Repeat(sign, m))}
				if n+m > most {
					mustRefuse(t, api.ErrSize, joined, cols, row)
					mustRefuse(t, api.ErrSize, sample.Op(api.Length, joined), cols, row)
					continue
				}
				mustSay(t, sample.Text(strings.Repeat(sign, n+m)), joined, cols, row)
				mustSay(t, sample.Int(n+m), sample.Op(api.Length, joined), cols, row)
			}
		}
	}
	row := []api.Value{sample.Text(sample.Long(api.MaxText - 1)), sample.Text("\u00e9")}
	mustRefuse(t, api.ErrSize, joined, cols, row)
	mustAgree(t, joined, cols, []api.Value{row[1], row[0]})
}

// sums: an expression of the number 3 alone, without a fault, all of whose parts are looked at.
func sums() api.Expr {
	x := sample.Col("x")
	twig := func() api.Expr { return sample.Op(api.Mul, sample.Op(api.Neg, x), sample.Op(api.Add, x, x)) }
	return sample.Op(api.Add, sample.Op(api.Sub, twig(), twig()), sample.Op(api.Neg, twig()))
}

// spoilt: expressions that stand for a part of sums, each with a fault of its own behind those of its parts.
func spoilt(e api.Expr) map[api.Errno]api.Expr {
	switch len(e.Args) {
	case 1:
		return map[api.Errno]api.Expr{api.ErrKind: sample.Op(api.Length, e.Args...)}
	case 2:
		return map[api.Errno]api.Expr{api.ErrKind: sample.Op(api.Join, e.Args...)}
	}
	return map[api.Errno]api.Expr{
		api.ErrNone: sample.Col("y"), api.ErrZero: written.Expr("1 / 0"), api.ErrRange: written.Expr("most + 1"),
		api.ErrKind: written.Expr("NOT x"), api.ErrSize: written.Expr("'" + sample.Long(api.MaxText) + "' || 'x'"),
	}
}

// TestFirstFault: P10.1, parts ahead of what they are parts of, from left to right: whichever fault is met first is told.
func TestFirstFault(t *testing.T) {
	cols := []api.Column{sample.Filled("x", api.Int), sample.Filled("most", api.Int)}
	row := []api.Value{sample.Int(3), sample.Int(math.MaxInt)}
	whole := sums()
	mustSay(t, sample.Int(18), whole, cols, row)
	parts := sample.Behind(&whole)
	for i := range parts {
		for j := range i {
			for later := range spoilt(*parts[i]) {
				for want := range spoilt(*parts[j]) {
					e := sums()
					l := sample.Behind(&e)
					*l[i] = spoilt(*l[i])[later]
					*l[j] = spoilt(*l[j])[want]
					mustRefuse(t, want, e, cols, row)
				}
			}
		}
	}
}

// TestNotLookedAt: P10.2, the right part of And, Or and Coalesce, behind each left part.
func TestNotLookedAt(t *testing.T) {
	lefts := []string{"TRUE", "FALSE", "NULL", "b", "NOT b", "i", "t", "0", "1", "'x'", "y", "1 / 0", "NOT 1", "- x"}
	rights := append(slices.Clone(lefts), "FALSE AND y", "y AND FALSE", "COALESCE ( NULL , 1 / 0 )", "i || t")
	for _, row := range [][]api.Value{sampleRow(), nullRow()} {
		for _, left := range lefts {
			a := written.Expr(left)
			v, why := Eval(a, sample.Columns(), row)
			for _, right := range rights {
				b := written.Expr(right)
				w, fault := Eval(b, sample.Columns(), row)
				for _, op := range []int{api.And, api.Or, api.Coalesce} {
					e := sample.Op(op, a, b)
					decisive := op == api.And && v == sample.Bool(0) || op == api.Or && v == sample.Bool(1) || op == api.Coalesce && v.Kind != api.Null
					switch {
					case why != api.OK:
						mustRefuse(t, why, e, sample.Columns(), row)
					case decisive:
						mustSay(t, v, e, sample.Columns(), row)
					case fault != api.OK:
						mustRefuse(t, fault, e, sample.Columns(), row)
					case op == api.Coalesce:
						mustSay(t, w, e, sample.Columns(), row)
					case v.Kind > api.Bool || w.Kind > api.Bool:
						mustRefuse(t, api.ErrKind, e, sample.Columns(), row)
					default:
						mustAgree(t, e, sample.Columns(), row)
					}
				}
			}
		}
	}
}

// TestManyExpressions: P10.1 to P10.3, of many large expressions; and what comes of it: what has a Kind never fails for its Kinds, and says a value of it.
func TestManyExpressions(t *testing.T) {
	chance := rand.New(rand.NewSource(10))
	counts := map[api.Errno]int{}
	for range 20000 {
		e := sample.Grown(chance.Intn, 2+chance.Intn(api.MaxDepth-1), chance.Intn(api.Text+1))
		if expr.Check(e) != api.OK {
			continue
		}
		kind, null, fault := kinds.Of(e, sample.Columns())
		for _, row := range sample.Rows(chance.Intn, 4) {
			v, why := mustAgree(t, e, sample.Columns(), row)
			counts[why]++
			if fault != api.OK {
				continue
			}
			if why == api.ErrKind || why == api.ErrNone {
				t.Errorf("%+v has a Kind, and fails with %d in %+v", e, why, row)
			}
			if why == api.OK && v.Kind != kind && !(null && v.Kind == api.Null) {
				t.Errorf("%+v is of the Kind %d, and says %+v in %+v", e, kind, v, row)
			}
		}
	}
	for _, why := range []api.Errno{api.OK, api.ErrSize, api.ErrKind, api.ErrNone, api.ErrRange, api.ErrZero} {
		if counts[why] < 100 {
			t.Errorf("of errors there were %v", counts)
		}
	}
}

// TestListsStayAsTheyAre: what is handed in is not changed, its spare room neither.
func TestListsStayAsTheyAre(t *testing.T) {
	cols, row := sample.Columns(), sampleRow()
	colsBefore, rowBefore := slices.Clone(cols), slices.Clone(row)
	for _, text := range []string{"2 * 3 + i", "COALESCE ( 1 + 1 , y ) = 2", "t || ( 'a' || 'b' )", "- - 5 < LENGTH ( 'ab' )", "NOT ( FALSE OR i IS NULL )", "y"} {
		l := sample.Roomy([]api.Expr{written.Expr(text)})
		before := sample.WholeOf(l)
		for _, n := range []int{len(cols), 2, 0} {
			Eval(l[0], cols[:n], row[:n])
			Fold(l[0])
		}
		if !reflect.DeepEqual(sample.WholeOf(l), before) {
			t.Errorf("%s was changed", text)
		}
	}
	if !slices.Equal(cols, colsBefore) || !slices.Equal(row, rowBefore) {
		t.Errorf("lists were changed: %+v %+v", cols, row)
	}
}

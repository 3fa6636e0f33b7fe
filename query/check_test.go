package query

import (
	"math"
	"slices"
	"testing"

	"chirograph/api"
	"chirograph/sample"
	"chirograph/written"
)

// mustRefuse: what Check refuses Run does, too, whatever the rows are.
func mustRefuse(t *testing.T, want api.Errno, cols []api.Column, q api.Query) {
	t.Helper()
	if why := Check(cols, q); why != want {
		t.Errorf("Check(%+v, %+v) = %d, want %d", cols, q, why, want)
	}
	for _, rows := range [][][]api.Value{nil, {make([]api.Value, len(cols))}, {nil, {{Kind: 77}}}, make([][]api.Value, api.MaxRows+1)} {
		if told, why := Run(cols, rows, q); len(told) > 0 || why != want {
			t.Errorf("Run(%+v, %+v, %+v) = %+v %d, want none %d", cols, rows, q, told, why, want)
		}
	}
}

// TestCheckTakes: P14.2, up to MaxItems of both, each sum of what it may be, plain items that are the Group's column.
func TestCheckTakes(t *testing.T) {
	for _, text := range []string{
		"x", "x , b , i , r", "NULL", "1 / 0", "COUNT ( * )", "COUNT ( * ) , COUNT ( * ) , SUM ( x ) , MAX ( t )", "SUM ( NULL )", "SUM ( COALESCE ( NULL , NULL ) )", "SUM ( LENGTH ( t ) )", "SUM ( COALESCE ( NULL , i ) )",
		"MIN ( b ) , MIN ( i ) , MIN ( r ) , MIN ( t )", "MAX ( b ) , MAX ( i ) , MAX ( r ) , MAX ( t )", "MIN ( NULL ) , MAX ( NULL )",
		"x WHERE b", "x WHERE NULL", "x WHERE 1 / 0 = 1", "COUNT ( * ) GROUP BY b", "i GROUP BY i", "i , COUNT ( * ) , i , SUM ( x ) GROUP BY i", "MAX ( x ) , r , r , r GROUP BY r",
		"x ORDER BY 1", "x ORDER BY 1 , 1 DESC , 1 , 1", "x , i ORDER BY 2 , 1", "x , i , b , t ORDER BY 4 , 3 , 2 , 1", "x LIMIT 0", "x LIMIT 9223372036854775807", "t , COUNT ( * ) WHERE b GROUP BY t ORDER BY 2 DESC , 1 LIMIT 1",
	} {
		if why := Check(sample.KeyedColumns(), written.Query(text)); why != api.OK {
			t.Errorf("Check(%s) = %d", text, why)
		}
	}
	for _, c := range sample.Columns() {
		q := api.Query{Items: []api.Item{sample.Plain(sample.Col(c.Name)), {Agg: api.Count, Expr: api.Expr{Args: []api.Expr{}}}}, Where: api.Expr{Args: []api.Expr{}}, Group: c.Name, Sorts: []api.Sort{}}
		if why := Check(sample.Columns(), q); why != api.OK {
			t.Errorf("Check(%+v) = %d", q, why)
		}
	}
	for _, cols := range [][]api.Column{nil, {}, sample.KeyColumn()} {
		for _, text := range []string{"1", "COUNT ( * )", "SUM ( 1 ) , MAX ( 'a' ) WHERE TRUE ORDER BY 2 LIMIT 3"} {
			if why := Check(cols, written.Query(text)); why != api.OK {
				t.Errorf("Check(%+v, %s) = %d", cols, text, why)
			}
		}
	}
}

// TestCheckRefuses: P14.2, of queries as they are written.
func TestCheckRefuses(t *testing.T) {
	for text, want := range map[string]api.Errno{
		"x WHERE i": api.ErrKind, "x WHERE 1": api.ErrKind, "x WHERE t || t": api.ErrKind, "x WHERE y": api.ErrNone, "x WHERE b AND i": api.ErrKind, "x WHERE b AND y = 1": api.ErrNone, "x WHERE r = 1": api.ErrKind,
		"COUNT ( * ) GROUP BY y": api.ErrNone, "y GROUP BY y": api.ErrNone, "x GROUP BY xx": api.ErrNone,
		"y": api.ErrNone, "x , y": api.ErrNone, "x + t": api.ErrKind, "x , NOT i": api.ErrKind, "MIN ( y )": api.ErrNone, "MAX ( b + 1 )": api.ErrKind, "SUM ( y )": api.ErrNone, "SUM ( t + y )": api.ErrNone, "SUM ( i + t )": api.ErrKind, "y GROUP BY x": api.ErrNone, "- t GROUP BY x": api.ErrKind,
		"SUM ( b )": api.ErrKind, "SUM ( r )": api.ErrKind, "SUM ( t )": api.ErrKind, "SUM ( TRUE )": api.ErrKind, "SUM ( 'a' )": api.ErrKind, "SUM ( i = 1 )": api.ErrKind, "SUM ( x ) , SUM ( COALESCE ( NULL , t ) )": api.ErrKind, "SUM ( t ) GROUP BY t": api.ErrKind,
		"x GROUP BY i": api.ErrForm, "i , x GROUP BY i": api.ErrForm, "1 GROUP BY i": api.ErrForm, "- i GROUP BY i": api.ErrForm, "COALESCE ( i , i ) GROUP BY i": api.ErrForm, "i + 0 GROUP BY i": api.ErrForm, "COUNT ( * ) , NULL GROUP BY i": api.ErrForm, "i , MAX ( i ) , LENGTH ( t ) GROUP BY i": api.ErrForm,
		"x , COUNT ( * )": api.ErrForm, "COUNT ( * ) , x": api.ErrForm, "x , SUM ( x )": api.ErrForm, "MIN ( x ) , x": api.ErrForm, "x , MAX ( x )": api.ErrForm, "MAX ( x ) , MIN ( x ) , x": api.ErrForm, "1 , COUNT ( * )": api.ErrForm, "x , x , x , COUNT ( * )": api.ErrForm, "MAX ( x ) , NULL , MAX ( x )": api.ErrForm,
		"x ORDER BY 0": api.ErrRange, "x ORDER BY 2": api.ErrRange, "x , i ORDER BY 1 , 3": api.ErrRange, "x , i , b , t ORDER BY 1 , 2 , 3 , 5": api.ErrRange, "x ORDER BY 257": api.ErrRange, "COUNT ( * ) ORDER BY 2 DESC": api.ErrRange, "b , COUNT ( * ) GROUP BY b ORDER BY 3": api.ErrRange,
	} {
		mustRefuse(t, want, sample.KeyedColumns(), written.Query(text))
	}
}

// TestSizes: P14.2, how many items and sorts there are.
func TestSizes(t *testing.T) {
	item, sort := sample.Plain(sample.Col("x")), api.Sort{Item: 1}
	for n := range api.MaxItems + 1 {
		for m := range api.MaxItems + 1 {
			q := api.Query{Items: slices.Repeat([]api.Item{item}, n), Sorts: slices.Repeat([]api.Sort{sort}, m)}
			if n == 0 {
				mustRefuse(t, api.ErrSize, sample.Columns(), q)
			} else if why := Check(sample.Columns(), q); why != api.OK {
				t.Errorf("Check of %d items and %d sorts = %d", n, m, why)
			}
		}
	}
	mustRefuse(t, api.ErrSize, sample.Columns(), api.Query{})
	for _, n := range []int{api.MaxItems + 1, 256, 256 + api.MaxItems, 100000} {
		mustRefuse(t, api.ErrSize, sample.Columns(), api.Query{Items: slices.Repeat([]api.Item{item}, n)})
		mustRefuse(t, api.ErrSize, sample.Columns(), api.Query{Items: make([]api.Item, n)})
		mustRefuse(t, api.ErrSize, sample.Columns(), api.Query{Items: []api.Item{item}, Sorts: slices.Repeat([]api.Sort{sort}, n)})
		mustRefuse(t, api.ErrSize, sample.Columns(), api.Query{Items: []api.Item{{}}, Sorts: make([]api.Sort, n)})
	}
}

// wrongItem with a fault of its own, and which one; where it has more the first one.
type wrongItem struct {
	item api.Item
	want api.Errno
}

// wrongItems of the columns of package sample, whatever the Group is.
func wrongItems() []wrongItem {
	l := []wrongItem{
		{sample.Sum(sample.Col("t")), api.ErrKind}, {sample.Max(sample.Col("y")), api.ErrNone}, {sample.Plain(sample.Col("y")), api.ErrNone}, {sample.Min(written.Expr("i + t")), api.ErrKind}, {sample.Sum(written.Expr("t || y")), api.ErrNone},
		{api.Item{Agg: api.Count, Expr: sample.Col("x")}, api.ErrForm}, {api.Item{Agg: api.Count, Expr: sample.Lit(sample.Null())}, api.ErrForm}, {api.Item{Agg: api.Count, Expr: sample.Col("y")}, api.ErrForm}, {api.Item{Agg: api.Count, Expr: api.Expr{Name: "x"}}, api.ErrForm}, {api.Item{Agg: api.Count, Expr: api.Expr{Value: sample.Int(1)}}, api.ErrForm},
	}
	for _, agg := range []int{-1, 5, 6, 255, 256, 257, 258, 1 << 32, math.MinInt, math.MaxInt} {
		for _, e := range []api.Expr{{}, sample.Col("x"), sample.Col("y"), sample.Col("t"), sample.Op(99)} {
			l = append(l, wrongItem{api.Item{Agg: agg, Expr: e}, api.ErrKind})
		}
	}
	for want, exprs := range sample.WrongExprs() {
		for _, e := range exprs {
			l = append(l, wrongItem{sample.Plain(e), want}, wrongItem{sample.Sum(e), want}, wrongItem{sample.Min(e), want}, wrongItem{sample.Max(e), want})
			if e.Op != 0 || len(e.Args) > 0 {
				l = append(l, wrongItem{api.Item{Agg: api.Count, Expr: e}, api.ErrForm})
			}
		}
	}
	return l
}

// TestWrongItems: P14.2, item by item, with a Group and without one, ahead of what they are together.
func TestWrongItems(t *testing.T) {
	count, plain := sample.Count(), sample.Plain(sample.Col("x"))
	for _, w := range wrongItems() {
		for _, group := range []string{"", "x", "t"} {
			for _, items := range [][]api.Item{{w.item}, {count, w.item}, {count, count, count, w.item}, {w.item, sample.Sum(sample.Col("t"))}, {count, w.item, sample.Plain(sample.Col("y"))}, {w.item, {Agg: 9}}, {w.item, plain, count}} {
				q := api.Query{Items: items, Group: group, Sorts: []api.Sort{{}}, Most: -1}
				mustRefuse(t, w.want, sample.Columns(), q)
			}
		}
		mustRefuse(t, w.want, sample.Columns(), sample.Asking(plain, count, w.item))
		mustRefuse(t, w.want, sample.Columns(), sample.Asking(count, plain, w.item, plain))
		mustRefuse(t, api.ErrForm, sample.Columns(), api.Query{Items: []api.Item{plain, w.item}, Group: "i"})
	}
}

// TestWrongSorts: P14.2, each place, and each wrong number of an item.
func TestWrongSorts(t *testing.T) {
	for n := 1; n <= api.MaxItems; n++ {
		for _, wrong := range []int{0, -1, -n, n + 1, n + 256, n << 32, math.MinInt, math.MaxInt} {
			for at := range api.MaxItems {
				sorts := slices.Repeat([]api.Sort{{Item: n}}, api.MaxItems)
				sorts[at] = api.Sort{Item: wrong, Down: n%2 == 0}
				q := api.Query{Items: slices.Repeat([]api.Item{sample.Count()}, n), Sorts: sorts}
				mustRefuse(t, api.ErrRange, sample.Columns(), q)
				q.Sorts = sorts[:at+1]
				mustRefuse(t, api.ErrRange, sample.Columns(), q)
			}
		}
	}
}

// TestWrongCut: P14.2, Most counts only if it is Cut.
func TestWrongCut(t *testing.T) {
	for _, most := range []int{-1, -2, math.MinInt, math.MinInt + 1, 1, 2, 256, 1 << 32, math.MaxInt} {
		q := sample.Asking(sample.Count())
		q.Most = most
		mustRefuse(t, api.ErrRange, sample.Columns(), q)
		q.Cut = true
		if most < 0 {
			mustRefuse(t, api.ErrRange, sample.Columns(), q)
		} else if why := Check(sample.Columns(), q); why != api.OK {
			t.Errorf("Check of a cut at %d = %d", most, why)
		}
	}
}

// fault that a query is given, with what is to be refused for it.
type fault struct {
	want api.Errno
	give func(cols *[]api.Column, q *api.Query)
}

// faults in the order in which they stand in P14.2.
func faults() [][]fault {
	var columns, conditions []fault
	for want, l := range sample.WrongColumns() {
		for _, wrong := range l {
			columns = append(columns, fault{want, func(cols *[]api.Column, q *api.Query) { *cols = wrong }})
		}
	}
	for want, l := range sample.WrongExprs() {
		for _, e := range l {
			if e.Op != 0 || len(e.Args) > 0 {
				conditions = append(conditions, fault{want, func(cols *[]api.Column, q *api.Query) { q.Where = e }})
			}
		}
	}
	where := func(want api.Errno, text string) fault {
		return fault{want, func(cols *[]api.Column, q *api.Query) { q.Where = written.Expr(text) }}
	}
	first := func(want api.Errno, item api.Item) fault {
		return fault{want, func(cols *[]api.Column, q *api.Query) {
			if len(q.Items) > 0 {
				q.Items[0] = item
			}
		}}
	}
	change := func(want api.Errno, give func(q *api.Query)) fault {
		return fault{want, func(cols *[]api.Column, q *api.Query) { give(q) }}
	}
	return [][]fault{
		columns,
		{
			change(api.ErrSize, func(q *api.Query) { q.Items = nil }), change(api.ErrSize, func(q *api.Query) { q.Items = slices.Repeat(q.Items, api.MaxItems) }),
			change(api.ErrSize, func(q *api.Query) { q.Sorts = make([]api.Sort, api.MaxItems+1) }), change(api.ErrSize, func(q *api.Query) { q.Sorts = slices.Repeat([]api.Sort{{Item: 1}}, api.MaxItems+1) }),
		},
		append(conditions, where(api.ErrKind, "i"), where(api.ErrNone, "y"), where(api.ErrKind, "b AND 1 = 'a'")),
		{change(api.ErrNone, func(q *api.Query) { q.Group = "y" }), change(api.ErrNone, func(q *api.Query) { q.Group = "X" }), change(api.ErrNone, func(q *api.Query) { q.Group = " " })},
		{first(api.ErrKind, api.Item{Agg: 5}), first(api.ErrForm, api.Item{Agg: api.Count, Expr: sample.Col("i")}), first(api.ErrNone, sample.Max(sample.Col("y"))), first(api.ErrKind, sample.Sum(sample.Col("t"))), first(api.ErrKind, sample.Plain(api.Expr{}))},
		{change(api.ErrForm, func(q *api.Query) { q.Items = append(q.Items, sample.Plain(sample.Col("x"))) })},
		{change(api.ErrRange, func(q *api.Query) { q.Sorts = append(q.Sorts, api.Sort{}) }), change(api.ErrRange, func(q *api.Query) { q.Sorts = append(q.Sorts, api.Sort{Item: 4}) })},
		{change(api.ErrRange, func(q *api.Query) { q.Most = 1 }), change(api.ErrRange, func(q *api.Query) { q.Cut, q.Most = true, -1 })},
	}
}

// TestFirstFault: P14.2, each fault alone, and each two, of which the one that is named first is told.
func TestFirstFault(t *testing.T) {
	all := faults()
	for i, some := range all {
		for _, early := range some {
			for _, others := range append([][]fault{{{api.OK, func(cols *[]api.Column, q *api.Query) {}}}}, all[i+1:]...) {
				for _, late := range others {
					cols, q := sample.Columns(), sample.Asking(sample.Count(), sample.Sum(sample.Col("x")))
					late.give(&cols, &q)
					early.give(&cols, &q)
					mustRefuse(t, early.want, cols, q)
				}
			}
		}
	}
}

// TestRows: P14.4, behind the query how many rows there are, then row by row whether they fit; ahead of what is asked of them.
func TestRows(t *testing.T) {
	cols := sample.TwoColumns()
	row := sample.Row(sample.Int(1), sample.Text("a"))
	for _, text := range []string{"k", "1 / 0", "COUNT ( * )", "k WHERE FALSE", "k WHERE 1 / 0 = 1", "SUM ( 9223372036854775807 )", "a , COUNT ( * ) GROUP BY a LIMIT 0"} {
		fails := func(want api.Errno, rows ...[]api.Value) {
			t.Helper()
			if told, why := Run(cols, rows, written.Query(text)); len(told) > 0 || why != want {
				t.Errorf("%s, asked of %d rows, tells %s (%d), want none (%d)", text, len(rows), written.Rows(told), why, want)
			}
		}
		for _, n := range []int{api.MaxRows + 1, 256, 256 + api.MaxRows, 100000} {
			fails(api.ErrSize, slices.Repeat([][]api.Value{row}, n)...)
			fails(api.ErrSize, slices.Repeat([][]api.Value{sample.Row(sample.Null(), sample.Null())}, n)...)
		}
		for _, w := range sample.WrongRows() {
			fails(w.Why, w.Row)
			fails(w.Why, row, row, w.Row)
			fails(w.Why, w.Row, row)
			fails(w.Why, append(slices.Repeat([][]api.Value{row}, api.MaxRows-1), w.Row)...)
			for _, other := range sample.WrongRows()[:8] {
				fails(w.Why, row, w.Row, row, other.Row)
			}
		}
	}
}

// TestFaultsInRows: P14.3, row by row, first whether the condition holds, then item by item; sums behind all rows. What is cut off is asked, too.
func TestFaultsInRows(t *testing.T) {
	for text, want := range map[string]api.Errno{
		"1 / 0": api.ErrZero, "1 / ( x - 3 )": api.ErrZero, "x + 9223372036854775807": api.ErrRange, "t || 'xxxxxxxxxxxxxxxxxxxxxxxxxxxxxxxxxxxxxxxx'": api.ErrSize, "x WHERE 1 / ( x - 3 ) = 0": api.ErrZero, "x WHERE x + 9223372036854775804 > 0": api.ErrRange,
		"1 / ( x - 4 ) , x + 9223372036854775807": api.ErrZero, "x + 9223372036854775807 , 1 / ( x - 4 )": api.ErrRange, "1 / ( x - 1 ) , x + 9223372036854775807": api.ErrRange, "x , x , 1 / ( x - 4 ) , x + 9223372036854775807": api.ErrZero, "1 / ( x - 1 ) , x + 9223372036854775803": api.ErrZero,
		"x + 9223372036854775807 WHERE 1 / ( x - 1 ) < 5": api.ErrRange, "1 / ( x - 1 ) WHERE x + 9223372036854775803 > 0": api.ErrZero, "1 / ( x - 2 ) WHERE x + 9223372036854775803 > 0": api.ErrRange, "x + 9223372036854775807 WHERE 1 / ( x - 4 ) < 5": api.ErrZero, "x + 9223372036854775807 WHERE x < 1 OR 1 / ( x - 3 ) = 7": api.ErrZero,
		"SUM ( 1 / 0 )": api.ErrZero, "MIN ( 1 / ( x - 3 ) )": api.ErrZero, "MAX ( 1 / ( x - 3 ) )": api.ErrZero, "COUNT ( * ) , SUM ( 1 / ( x - 3 ) ) GROUP BY b": api.ErrZero, "i , MAX ( x + 9223372036854775803 ) GROUP BY i": api.ErrRange, "i WHERE 1 / ( x - 3 ) > 0 GROUP BY i": api.ErrZero,
		"SUM ( 9223372036854775807 )": api.ErrRange, "SUM ( x + 9223372036854775800 )": api.ErrRange, "SUM ( - 9223372036854775807 )": api.ErrRange, "COUNT ( * ) , MIN ( x ) , MAX ( x ) , SUM ( 9223372036854775807 )": api.ErrRange, "b , SUM ( x + 9223372036854775800 ) GROUP BY b": api.ErrRange, "SUM ( COALESCE ( i , 9223372036854775807 ) ) GROUP BY r": api.ErrRange,
		"SUM ( 9223372036854775807 ) , MAX ( 1 / ( x - 3 ) )": api.ErrZero, "SUM ( 9223372036854775807 ) , MAX ( t || 'xxxxxxxxxxxxxxxxxxxxxxxxxxxxxxxxxxxxxxxx' )": api.ErrSize, "b , SUM ( 9223372036854775807 ) , MIN ( 1 / ( x - 3 ) ) GROUP BY b": api.ErrZero,
		"1 / ( x - 3 ) LIMIT 0": api.ErrZero, "1 / ( x - 3 ) LIMIT 2": api.ErrZero, "x WHERE 1 / ( x - 3 ) > 0 LIMIT 1": api.ErrZero, "SUM ( 9223372036854775807 ) LIMIT 0": api.ErrRange, "SUM ( x + 9223372036854775800 ) GROUP BY b LIMIT 1": api.ErrRange,
	} {
		if told, why := Run(sample.KeyedColumns(), sample.FiveRows(), written.Query(text)); len(told) > 0 || why != want {
			t.Errorf("%s tells %s (%d), want none (%d)", text, written.Rows(told), why, want)
		}
	}
	mustTell(t, sample.FiveRows(), []asked{{"SUM ( 9223372036854775807 ) GROUP BY x", "9223372036854775807; 9223372036854775807; 9223372036854775807; 9223372036854775807; 9223372036854775807"}, {"x , SUM ( x + 9223372036854775802 ) GROUP BY x LIMIT 1", "1 9223372036854775803"}})
}

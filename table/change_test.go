package table

import (
	"math"
	"slices"
	"testing"

	"chirograph/api"
	"chirograph/sample"
	"chirograph/written"
)

// condition as it is written; an empty text is none at all.
func condition(text string) api.Expr {
	if text == "" {
		return api.Expr{}
	}
	return written.Expr(text)
}

// mustBe a table and a number, without a fault.
func mustBe(t *testing.T, said string, want api.Table, wantN int, x api.Table, n int, why api.Errno) {
	t.Helper()
	if !same(x, want) || n != wantN || why != api.OK {
		t.Errorf("%s = %+v %d %d, want %+v %d 0", said, x, n, why, want, wantN)
	}
}

// mustBeNone but the fault.
func mustBeNone(t *testing.T, said string, want api.Errno, x api.Table, n int, why api.Errno) {
	t.Helper()
	if !isNone(x) || n != 0 || why != want {
		t.Errorf("%s = %+v %d %d, want none %d", said, x, n, why, want)
	}
}

// TestUpdateKeys: P13.5, in each drawer, while the other one stays as it was.
func TestUpdateKeys(t *testing.T) {
	other := cellsOf(2, 0, 1)
	for _, c := range []struct {
		where, set string
		was, want  cells
		n          int
	}{
		{"", "k + 1", cellsOf(1, 2), cellsOf(2, 3), 2}, {"", "k + 1", cellsOf(2, 1), cellsOf(3, 2), 2}, {"", "k - 1", cellsOf(4, 0, 3, 2), cellsOf(3, 0, 2, 1), 3},
		{"", "- k", cellsOf(1, -1, 2, -2), cellsOf(-1, 1, -2, 2), 4}, {"", "3 - k", cellsOf(1, 2), cellsOf(2, 1), 2}, {"", "k", cellsOf(0, 7, 0, 1), cellsOf(0, 7, 0, 1), 2},
		{"", "9", cellsOf(0, 0, 4), cellsOf(0, 0, 9), 1}, {"", "NULL", cells{}, cells{}, 0}, {"k = 1", "NULL", cellsOf(2), cellsOf(2), 0}, {"k = 1", "1 / 0", cellsOf(2, 3), cellsOf(2, 3), 0},
		{"k = 1", "5", cellsOf(1, 2, 3), cellsOf(5, 2, 3), 1}, {"k > 1", "k + 1", cellsOf(2, 1, 3), cellsOf(3, 1, 4), 2}, {"NULL", "5", cellsOf(1, 2), cellsOf(1, 2), 0}, {"FALSE", "5", cellsOf(1, 2), cellsOf(1, 2), 0},
		{"TRUE", "k * 2", cellsOf(1, 2, 4, 8), cellsOf(2, 4, 8, 16), 4}, {"k = 2", "2", cellsOf(1, 2), cellsOf(1, 2), 1}, {"", "COALESCE ( NULL , k + 1 )", cellsOf(3), cellsOf(4), 1},
		{"k < 0", "k - 1", cellsOf(math.MinInt+1, 0, math.MaxInt), cellsOf(math.MinInt, 0, math.MaxInt), 1}, {"k <> 5", "k + 2", cellsOf(3, 4, 5, 6), cells{}, -1},
	} {
		said := "Update of " + c.where + " to " + c.set
		sets := []api.Set{setting("k", c.set)}
		x, n, why := Update(numbers(c.was, other), 0, condition(c.where), sets)
		y, m, whyY := Update(numbers(other, c.was), 1, condition(c.where), sets)
		if c.n < 0 {
			mustBeNone(t, said, api.ErrTwice, x, n, why)
			mustBeNone(t, said, api.ErrTwice, y, m, whyY)
			continue
		}
		mustBe(t, said, numbers(c.want, other), c.n, x, n, why)
		mustBe(t, said, numbers(other, c.want), c.n, y, m, whyY)
	}
}

// oneRow: a table of all columns with one row.
func oneRow(x int, values ...api.Value) api.Table {
	return sample.Table(sample.KeyedColumns(), cells{}, sample.Drawer(nil, append(sample.Row(sample.Int(x)), values...)))
}

// TestUpdateAtOnce: P13.5, all of it is reckoned of the row as it was, in whichever order; what isn't set stays.
func TestUpdateAtOnce(t *testing.T) {
	yes, no, null := sample.Bool(1), sample.Bool(0), sample.Null()
	was := oneRow(3, yes, sample.Int(5), null, sample.Text("a"))
	for _, c := range []struct {
		sets []api.Set
		want api.Table
	}{
		{[]api.Set{setting("x", "i"), setting("i", "x")}, oneRow(5, yes, sample.Int(3), null, sample.Text("a"))},
		{[]api.Set{setting("i", "x"), setting("x", "i")}, oneRow(5, yes, sample.Int(3), null, sample.Text("a"))},
		{[]api.Set{setting("i", "i + 1"), setting("x", "i + 1")}, oneRow(6, yes, sample.Int(6), null, sample.Text("a"))},
		{[]api.Set{setting("t", "t || 'b'")}, oneRow(3, yes, sample.Int(5), null, sample.Text("ab"))},
		{[]api.Set{setting("t", "NULL"), setting("r", "#3ff8000000000000")}, oneRow(3, yes, sample.Int(5), sample.Real(1.5), null)},
		{[]api.Set{setting("b", "i IS NULL"), setting("r", "r"), setting("i", "NULL"), setting("t", "COALESCE ( NULL , 'c' )")}, oneRow(3, no, null, null, sample.Text("c"))},
		{[]api.Set{setting("b", "x > 3"), setting("x", "LENGTH ( t )"), setting("i", "x"), setting("t", "''")}, oneRow(1, no, sample.Int(3), null, sample.Text(""))},
	} {
		x, n, why := Update(was, 1, api.Expr{}, c.sets)
		mustBe(t, "Update", c.want, 1, x, n, why)
		x, n, why = Update(was, 1, written.Expr("x = 3 AND b"), c.sets)
		mustBe(t, "Update", c.want, 1, x, n, why)
		x, n, why = Update(was, 1, written.Expr("r = r"), c.sets)
		mustBe(t, "Update", was, 0, x, n, why)
		x, n, why = Update(was, 0, api.Expr{}, c.sets)
		mustBe(t, "Update", was, 0, x, n, why)
	}
}

// TestDelete: P13.6, in each drawer; the others stay in their cells.
func TestDelete(t *testing.T) {
	other := cellsOf(2, 0, 1)
	for _, c := range []struct {
		where     string
		was, want cells
		n         int
	}{
		{"", cellsOf(1, 2, 3, 4), cells{}, 4}, {"", cells{}, cells{}, 0}, {"", cellsOf(0, 5), cells{}, 1}, {"k = 2", cellsOf(1, 2, 3), cellsOf(1, 0, 3), 1}, {"k > 1", cellsOf(1, 2, 3, 4), cellsOf(1), 3}, {"k < 4", cellsOf(1, 2, 3, 4), cellsOf(0, 0, 0, 4), 3},
		{"NULL", cellsOf(1, 2), cellsOf(1, 2), 0}, {"FALSE", cellsOf(1, 2), cellsOf(1, 2), 0}, {"TRUE", cellsOf(1, 0, 0, 2), cells{}, 2}, {"k = 9", cellsOf(1, 2), cellsOf(1, 2), 0}, {"COALESCE ( NULL , k = 1 )", cellsOf(2, 1), cellsOf(2), 1},
	} {
		said := "Delete of " + c.where
		x, n, why := Delete(numbers(c.was, other), 0, condition(c.where))
		mustBe(t, said, numbers(c.want, other), c.n, x, n, why)
		x, n, why = Delete(numbers(other, c.was), 1, condition(c.where))
		mustBe(t, said, numbers(other, c.want), c.n, x, n, why)
	}
}

// TestDeleteThenInsert: P13.6, cells that are not Full any more take rows again, the first one first.
func TestDeleteThenInsert(t *testing.T) {
	x, _, why := Delete(numbers(cellsOf(1, 2, 3, 4), cells{}), 0, written.Expr("k = 2 OR k = 4"))
	for _, k := range []int{2, 9} {
		if why != api.OK {
			t.Fatal(why)
		}
		x, why = Insert(x, 0, sample.Row(sample.Int(k)))
	}
	mustBe(t, "Insert", numbers(cellsOf(1, 2, 3, 9), cells{}), 0, x, 0, why)
}

// mustRefuseChange: what Update and Delete refuse alike, whatever is set.
func mustRefuseChange(t *testing.T, want api.Errno, x api.Table, drawer int, where api.Expr) {
	t.Helper()
	y, n, why := Delete(x, drawer, where)
	mustBeNone(t, "Delete", want, y, n, why)
	for _, l := range [][]api.Set{nil, {setting("k", "k + 1")}, {setting("y", "1")}, {setting("k", "NULL"), setting("k", "1 / 0")}, make([]api.Set, api.MaxSets+1)} {
		y, n, why := Update(x, drawer, where, l)
		mustBeNone(t, "Update", want, y, n, why)
	}
}

// TestChangeRefuses: P13.5 and P13.6, the drawer, then the condition, be there rows or not.
func TestChangeRefuses(t *testing.T) {
	for _, x := range []api.Table{keyAndText(), sample.Table(keyAndText().Cols)} {
		wrong := map[api.Errno][]api.Expr{
			api.ErrKind: {written.Expr("k"), written.Expr("a"), written.Expr("k = a"), {Name: "k"}},
			api.ErrNone: {written.Expr("y"), written.Expr("FALSE AND y"), written.Expr("y = 1 / 0")},
		}
		for want, l := range sample.WrongExprs() {
			for _, e := range l {
				if e.Op != 0 || len(e.Args) > 0 {
					wrong[want] = append(wrong[want], e)
				}
			}
		}
		for want, l := range wrong {
			for _, e := range l {
				mustRefuseChange(t, want, x, 0, e)
				mustRefuseChange(t, want, x, 1, e)
				for _, drawer := range wrongPlaces() {
					mustRefuseChange(t, api.ErrRange, x, drawer, e)
				}
			}
		}
		for _, drawer := range wrongPlaces() {
			mustRefuseChange(t, api.ErrRange, x, drawer, api.Expr{})
		}
	}
}

// wrongSet of a column, and why.
type wrongSet struct {
	set  api.Set
	want api.Errno
}

// wrongSets on the columns of package sample; each is wrong behind one that sets the column i, the last ones only there.
func wrongSets() []wrongSet {
	l := []wrongSet{
		{setting("y", "1"), api.ErrNone}, {setting("Y", "y"), api.ErrNone}, {setting("", "i"), api.ErrNone}, {setting("xx", "1 + 'a'"), api.ErrNone}, {api.Set{}, api.ErrNone},
		{setting("x", "y"), api.ErrNone}, {setting("x", "1 + 'a'"), api.ErrKind}, {setting("x", "y + t"), api.ErrNone}, {setting("x", "t - y"), api.ErrNone},
		{setting("x", "t"), api.ErrKind}, {setting("x", "TRUE"), api.ErrKind}, {setting("t", "x"), api.ErrKind}, {setting("b", "1"), api.ErrKind}, {setting("r", "1"), api.ErrKind}, {setting("t", "r"), api.ErrKind}, {setting("b", "NULL || NULL"), api.ErrKind},
		{api.Set{Col: "x"}, api.ErrKind}, {api.Set{Col: "x", Expr: sample.Lit(sample.Int(-1))}, api.ErrForm},
	}
	for want, exprs := range sample.WrongExprs() {
		for _, e := range exprs {
			l = append(l, wrongSet{api.Set{Col: "t", Expr: e}, want}, wrongSet{api.Set{Col: "y", Expr: e}, api.ErrNone}, wrongSet{api.Set{Col: "i", Expr: e}, api.ErrTwice})
		}
	}
	return append(l, wrongSet{setting("i", "1"), api.ErrTwice}, wrongSet{setting("i", "y"), api.ErrTwice}, wrongSet{setting("i", "'a'"), api.ErrTwice})
}

// rowsOfAll: a table of all columns, with rows whose keys are 0 to 3, in the first drawer.
func rowsOfAll() api.Table {
	var rows [][]api.Value
	for k := range api.Slots {
		rows = append(rows, sample.Row(sample.Int(k), sample.Null(), sample.Int(5), sample.Real(0), sample.Text("a")))
	}
	return sample.Table(sample.KeyedColumns(), sample.Drawer(rows...))
}

// TestSetsRefused: P13.5, how many there are, then set by set; ahead of what is asked of rows, and if there are none, too.
func TestSetsRefused(t *testing.T) {
	mustRefuse := func(want api.Errno, l ...api.Set) {
		t.Helper()
		for _, where := range []string{"", "FALSE", "1 / 0 = 1", "x = 1"} {
			for drawer := range api.Drawers {
				x, n, why := Update(rowsOfAll(), drawer, condition(where), l)
				mustBeNone(t, "Update of "+where, want, x, n, why)
			}
		}
	}
	first, good := setting("i", "1 / 0"), setting("r", "NULL")
	mustRefuse(api.ErrSize)
	mustRefuse(api.ErrSize, []api.Set{}...)
	for _, n := range []int{api.MaxSets + 1, 256, 256 + api.MaxSets, 100000} {
		mustRefuse(api.ErrSize, make([]api.Set, n)...)
		mustRefuse(api.ErrSize, slices.Repeat([]api.Set{first}, n)...)
	}
	mustRefuse(api.ErrSize, setting("x", "1"), setting("b", "TRUE"), setting("i", "1"), setting("r", "r"), setting("t", "t"))
	for _, w := range wrongSets() {
		mustRefuse(w.want, first, w.set)
		mustRefuse(w.want, first, w.set, api.Set{}, good)
		mustRefuse(w.want, first, w.set, first)
		mustRefuse(w.want, first, w.set, setting("x", "'a'"))
		if w.set.Col != "r" {
			mustRefuse(w.want, first, good, w.set)
		}
		if w.set.Col != "i" {
			mustRefuse(w.want, w.set)
			mustRefuse(w.want, w.set, first)
			mustRefuse(w.want, w.set, w.set)
		}
	}
	for _, col := range []string{"x", "b", "i", "r", "t"} {
		mustRefuse(api.ErrTwice, api.Set{Col: col, Expr: sample.Col(col)}, api.Set{Col: col, Expr: sample.Col(col)})
		mustRefuse(api.ErrNone, api.Set{Col: col, Expr: sample.Col(col)}, api.Set{Col: "y"}, api.Set{Col: col, Expr: sample.Col(col)})
	}
}

// TestSetsTaken: P13.5, each Kind for its column, a null for each; up to MaxSets.
func TestSetsTaken(t *testing.T) {
	all := []api.Set{setting("x", "x + i"), setting("b", "x = 1"), setting("t", "t"), setting("r", "COALESCE ( r , #0000000000000000 )"), setting("i", "LENGTH ( t )")}
	for n := 1; n <= api.MaxSets; n++ {
		for i := range len(all) - n + 1 {
			if _, m, why := Update(rowsOfAll(), 0, api.Expr{}, all[i:i+n]); m != api.Slots || why != api.OK {
				t.Errorf("Update by %+v = %d %d", all[i:i+n], m, why)
			}
		}
	}
	for _, col := range []string{"b", "i", "r", "t"} {
		for _, text := range []string{"NULL", "COALESCE ( NULL , NULL )"} {
			if _, m, why := Update(rowsOfAll(), 0, written.Expr("x < 2"), []api.Set{setting(col, text)}); m != 2 || why != api.OK {
				t.Errorf("Update of %s by %s = %d %d", col, text, m, why)
			}
		}
	}
}

// TestFirstFault: P13.5 and P13.6, cell by cell, first whether the condition holds, then set by set; keys in the end.
func TestFirstFault(t *testing.T) {
	for _, c := range []struct {
		where string
		sets  []api.Set
		want  api.Errno
	}{
		{"", []api.Set{setting("x", "NULL")}, api.ErrNull}, {"", []api.Set{setting("x", "COALESCE ( NULL , NULL )")}, api.ErrNull}, {"", []api.Set{setting("x", "1 + NULL")}, api.ErrNull}, {"x = 3", []api.Set{setting("x", "NULL")}, api.ErrNull},
		{"", []api.Set{setting("x", "1 / 0")}, api.ErrZero}, {"", []api.Set{setting("i", "1 / ( x - 3 )")}, api.ErrZero}, {"x = 3", []api.Set{setting("i", "1 / ( x - 3 )")}, api.ErrZero}, {"x <> 3", []api.Set{setting("i", "1 / ( x - 3 )")}, api.OK},
		{"", []api.Set{setting("x", "x + 9223372036854775807")}, api.ErrRange}, {"x = 0", []api.Set{setting("x", "x + 9223372036854775807")}, api.OK}, {"", []api.Set{setting("t", "'xxxxxxxxxxxxxxxxxxxxxxxxxxxxxxxxxxxxxxxx' || t")}, api.ErrSize},
		{"1 / ( x - 2 ) = 1", []api.Set{setting("x", "NULL")}, api.ErrZero}, {"1 / ( x - 2 ) <> 5", []api.Set{setting("x", "NULL")}, api.ErrNull}, {"x = 2 AND 1 / 0 = 1 OR x = 3", []api.Set{setting("x", "NULL")}, api.ErrZero}, {"x = 2 OR x = 3 AND 1 / 0 = 1", []api.Set{setting("x", "NULL")}, api.ErrNull},
		{"", []api.Set{setting("x", "NULL"), setting("i", "1 / 0")}, api.ErrNull}, {"", []api.Set{setting("i", "1 / 0"), setting("x", "NULL")}, api.ErrZero}, {"", []api.Set{setting("i", "1 / ( x - 1 )"), setting("x", "NULL")}, api.ErrNull}, {"x > 0", []api.Set{setting("i", "1 / ( x - 1 )"), setting("x", "NULL")}, api.ErrZero},
		{"", []api.Set{setting("x", "COALESCE ( NULL , i )"), setting("i", "NULL")}, api.ErrTwice}, {"", []api.Set{setting("x", "1")}, api.ErrTwice}, {"x > 2", []api.Set{setting("x", "1")}, api.ErrTwice}, {"x = 2", []api.Set{setting("x", "x + 1")}, api.ErrTwice}, {"x = 2", []api.Set{setting("x", "x + 2")}, api.OK},
		{"", []api.Set{setting("x", "1"), setting("i", "1 / ( x - 3 )")}, api.ErrZero}, {"", []api.Set{setting("x", "1"), setting("i", "x - x + 9223372036854775807 + x / 3")}, api.ErrRange}, {"", []api.Set{setting("x", "1 / ( 3 - x ) * 0"), setting("i", "NULL")}, api.ErrZero},
	} {
		was := rowsOfAll()
		x, n, why := Update(was, 0, condition(c.where), c.sets)
		if c.want == api.OK {
			if why != api.OK || n == 0 || isNone(x) {
				t.Errorf("Update of %s by %+v = %+v %d %d", c.where, c.sets, x, n, why)
			}
			continue
		}
		mustBeNone(t, "Update of "+c.where, c.want, x, n, why)
	}
	for where, want := range map[string]api.Errno{"1 / ( x - 3 ) = 0": api.ErrZero, "x + 9223372036854775806 > 0": api.ErrRange, "x < 3 OR 1 / 0 = 1": api.ErrZero, "x = 0 AND t || 'xxxxxxxxxxxxxxxxxxxxxxxxxxxxxxxxxxxxxxxx' = 'x' OR 1 / 0 = 1": api.ErrSize} {
		x, n, why := Delete(rowsOfAll(), 0, written.Expr(where))
		mustBeNone(t, "Delete of "+where, want, x, n, why)
		y, n, why := Delete(rowsOfAll(), 1, written.Expr(where))
		mustBe(t, "Delete of "+where, rowsOfAll(), 0, y, n, why)
	}
}

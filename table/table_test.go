package table

import (
	"math"
	"reflect"
	"slices"
	"testing"

	"chirograph/api"
	"chirograph/sample"
	"chirograph/written"
)

// cellsOf drawers of numbers, as the tests write them: what is 0 is not Full.
func cellsOf(keys ...int) cells {
	var rows [][]api.Value
	for _, k := range keys {
		if k == 0 {
			rows = append(rows, nil)
			continue
		}
		rows = append(rows, sample.Row(sample.Int(k)))
	}
	return sample.Drawer(rows...)
}

// numbers: a table of one column, with such drawers.
func numbers(first, second cells) api.Table {
	return sample.Table(sample.KeyColumn(), first, second)
}

// same tells whether two tables say the same; an empty list is as good as none.
func same(a, b api.Table) bool {
	if a.There != b.There || a.Name != b.Name || !slices.Equal(a.Cols, b.Cols) {
		return false
	}
	for i := range a.Drawers {
		for j, c := range a.Drawers[i] {
			d := b.Drawers[i][j]
			if c.Full != d.Full || !slices.Equal(c.Row, d.Row) {
				return false
			}
		}
	}
	return true
}

// isNone tells whether a table is a zero one.
func isNone(t api.Table) bool {
	return reflect.DeepEqual(t, api.Table{})
}

// setting of a column, as it is written.
func setting(col, text string) api.Set {
	return api.Set{Col: col, Expr: written.Expr(text)}
}

// wrongPlaces that there is no drawer at.
func wrongPlaces() []int { return sample.WrongPlaces(api.Drawers) }

// TestCheckTakes: P13.2, tables that may be.
func TestCheckTakes(t *testing.T) {
	for _, x := range sample.Tables() {
		if why := Check(x); why != api.OK {
			t.Errorf("Check(%+v) = %d", x, why)
		}
	}
}

// wrongWays: a Where and a row that are refused by themselves, so that it is seen what is refused ahead of them.
func wrongWays() (api.Expr, []api.Value, []api.Set) {
	return sample.Op(99), sample.Row(sample.Int(1), api.Value{Kind: 77}), nil
}

// mustRefuseTable: what Check refuses, all others do, whatever else is wrong, with nothing else told.
func mustRefuseTable(t *testing.T, want api.Errno, x api.Table) {
	t.Helper()
	if why := Check(x); why != want {
		t.Errorf("Check(%+v) = %d, want %d", x, why, want)
	}
	where, row, sets := wrongWays()
	for _, drawer := range append(wrongPlaces(), 0, 1) {
		for _, r := range [][]api.Value{row, nil, sample.Row(sample.Int(1))} {
			if y, why := Insert(x, drawer, r); !isNone(y) || why != want {
				t.Errorf("Insert(%+v, %d, %+v) = %+v %d, want none %d", x, drawer, r, y, why, want)
			}
		}
		for _, e := range []api.Expr{where, {}} {
			for _, l := range [][]api.Set{sets, {setting("k", "1")}} {
				if y, n, why := Update(x, drawer, e, l); !isNone(y) || n != 0 || why != want {
					t.Errorf("Update(%+v, %d, %+v, %+v) = %+v %d %d, want none %d", x, drawer, e, l, y, n, why, want)
				}
			}
			if y, n, why := Delete(x, drawer, e); !isNone(y) || n != 0 || why != want {
				t.Errorf("Delete(%+v, %d, %+v) = %+v %d %d, want none %d", x, drawer, e, y, n, why, want)
			}
		}
	}
	for _, open := range [][api.Drawers]bool{{}, {true}, {false, true}, {true, true}} {
		if l, why := Rows(x, open); len(l) > 0 || why != want {
			t.Errorf("Rows(%+v, %v) = %+v %d, want none %d", x, open, l, why, want)
		}
	}
}

// TestCheckRefuses: P13.2, and what comes of it for all others.
func TestCheckRefuses(t *testing.T) {
	for want, l := range sample.WrongTables() {
		for _, x := range l {
			mustRefuseTable(t, want, x)
		}
	}
}

// wrongCell of two columns, and why.
type wrongCell struct {
	cell api.Cell
	want api.Errno
}

func wrongCells() []wrongCell {
	l := []wrongCell{
		{api.Cell{Row: sample.Row(sample.Int(50), sample.Text(""))}, api.ErrForm}, {api.Cell{Row: make([]api.Value, 1)}, api.ErrForm}, {api.Cell{Row: make([]api.Value, 9)}, api.ErrForm},
	}
	for _, w := range sample.WrongRows() {
		l = append(l, wrongCell{api.Cell{Full: true, Row: w.Row}, w.Why})
	}
	return l
}

// keyAndText: a table of two columns without nulls, whose cells are all full.
func keyAndText() api.Table {
	x := sample.Table(sample.TwoColumns())
	for i := range x.Drawers {
		for j := range x.Drawers[i] {
			x.Drawers[i][j] = api.Cell{Full: true, Row: sample.Row(sample.Int(10-j), sample.Text("same"))}
		}
	}
	return x
}

// TestCheckCells: P13.2, each fault of a cell in each place, be the others Full or not.
func TestCheckCells(t *testing.T) {
	for _, w := range wrongCells() {
		for i := range api.Drawers {
			for j := range api.Slots {
				x := keyAndText()
				x.Drawers[i][j] = w.cell
				y := sample.Table(x.Cols)
				y.Drawers[i][j] = w.cell
				if Check(x) != w.want || Check(y) != w.want {
					t.Errorf("Check of a table with %+v in %d %d = %d and %d, want %d", w.cell, i, j, Check(x), Check(y), w.want)
				}
			}
		}
	}
}

// TestCheckFirstCell: P13.2, drawer by drawer, cell by cell; behind all cells of a drawer it is asked for keys that are the same.
func TestCheckFirstCell(t *testing.T) {
	faults := wrongCells()[:11]
	for at := range api.Drawers * api.Slots {
		for later := at + 1; later < api.Drawers*api.Slots; later++ {
			for _, first := range faults {
				for _, second := range faults {
					x := keyAndText()
					x.Drawers[at/api.Slots][at%api.Slots] = first.cell
					x.Drawers[later/api.Slots][later%api.Slots] = second.cell
					if why := Check(x); why != first.want {
						t.Errorf("Check of a table with %+v in %d and %+v in %d = %d", first.cell, at, second.cell, later, why)
					}
				}
			}
		}
	}
	for _, w := range faults {
		for j := 2; j < api.Slots; j++ {
			x := keyAndText()
			x.Drawers[0][1] = x.Drawers[0][0]
			x.Drawers[0][j] = w.cell
			if why := Check(x); why != w.want {
				t.Errorf("Check of the same keys, and then %+v = %d", w.cell, why)
			}
			x.Drawers[0][j], x.Drawers[1][0] = api.Cell{}, w.cell
			if why := Check(x); why != api.ErrTwice {
				t.Errorf("Check of the same keys, and %+v in the next drawer = %d", w.cell, why)
			}
		}
	}
}

// TestCheckTwice: P13.2, each two cells of one drawer, and of two.
func TestCheckTwice(t *testing.T) {
	for i := range api.Drawers {
		for a := range api.Slots {
			for b := range a {
				for _, k := range []int{0, 1, -1, math.MinInt, math.MaxInt} {
					x := keyAndText()
					x.Drawers[i][a].Row = sample.Row(sample.Int(k), sample.Text("a"))
					x.Drawers[1-i][a].Row = sample.Row(sample.Int(k), sample.Text("b"))
					if why := Check(x); why != api.OK {
						t.Errorf("Check(%+v) = %d", x, why)
					}
					x.Drawers[i][b].Row = sample.Row(sample.Int(k), sample.Text("c"))
					mustRefuseTable(t, api.ErrTwice, x)
				}
			}
		}
	}
}

// TestInsert: P13.3, into the first cell that is not Full; the other drawer stays as it was.
func TestInsert(t *testing.T) {
	for ways := range 1 << api.Slots {
		var d cells
		first := -1
		for i := range d {
			if ways>>i&1 == 1 {
				d[i] = cellsOf(i + 1)[0]
			} else if first < 0 {
				first = i
			}
		}
		other := cellsOf(7, 0, 5)
		for _, k := range []int{7, 5, -1, math.MinInt, math.MaxInt} {
			a, why := Insert(numbers(d, other), 0, sample.Row(sample.Int(k)))
			b, whyB := Insert(numbers(other, d), 1, sample.Row(sample.Int(k)))
			if first < 0 {
				if !isNone(a) || !isNone(b) || why != api.ErrFull || whyB != api.ErrFull {
					t.Errorf("Insert into full cells = %+v %d and %+v %d", a, why, b, whyB)
				}
				continue
			}
			want := d
			want[first] = cellsOf(k)[0]
			if !same(a, numbers(want, other)) || !same(b, numbers(other, want)) || why != api.OK || whyB != api.OK {
				t.Errorf("Insert of %d into %+v = %+v %d and %+v %d", k, d, a, why, b, whyB)
			}
		}
		for i := range api.Slots {
			x, why := Insert(numbers(d, cells{}), 0, sample.Row(sample.Int(i+1)))
			if taken := ways>>i&1 == 1; taken && (!isNone(x) || why != api.ErrTwice) || !taken && why != api.OK {
				t.Errorf("Insert of %d into %+v = %+v %d", i+1, d, x, why)
			}
		}
	}
}

// TestInsertRefuses: P13.3, the drawer, then the row, then its key, then that all cells are full.
func TestInsertRefuses(t *testing.T) {
	full := keyAndText()
	few := sample.CopyOfTable(full)
	few.Drawers[0][3], few.Drawers[1][0] = api.Cell{}, api.Cell{}
	mustRefuse := func(x api.Table, drawer int, row []api.Value, want api.Errno) {
		t.Helper()
		if y, why := Insert(x, drawer, row); !isNone(y) || why != want {
			t.Errorf("Insert(%+v, %d, %+v) = %+v %d, want none %d", x, drawer, row, y, why, want)
		}
	}
	for _, x := range []api.Table{full, few} {
		for _, w := range wrongCells() {
			if !w.cell.Full {
				continue
			}
			for _, drawer := range wrongPlaces() {
				mustRefuse(x, drawer, w.cell.Row, api.ErrRange)
			}
			for drawer := range api.Drawers {
				mustRefuse(x, drawer, w.cell.Row, w.want)
			}
		}
		taken, free := sample.Row(sample.Int(9), sample.Text("")), sample.Row(sample.Int(1), sample.Text(""))
		for _, drawer := range wrongPlaces() {
			mustRefuse(x, drawer, taken, api.ErrRange)
			mustRefuse(x, drawer, free, api.ErrRange)
		}
		mustRefuse(x, 0, taken, api.ErrTwice)
		mustRefuse(x, 1, taken, api.ErrTwice)
	}
	mustRefuse(full, 0, sample.Row(sample.Int(1), sample.Text("")), api.ErrFull)
	mustRefuse(full, 1, sample.Row(sample.Int(1), sample.Text("")), api.ErrFull)
}

// TestInsertRows: P13.3, of each number of columns, nulls where they may be.
func TestInsertRows(t *testing.T) {
	for n := 1; n <= api.MaxCols; n++ {
		cols := sample.KeyedColumns()[:n]
		row := sample.Row(sample.Int(-3), sample.Bool(0), sample.Null(), sample.Real(1.5), sample.Null())[:n]
		got, why := Insert(sample.Table(cols), 1, row)
		if why != api.OK || !same(got, sample.Table(cols, cells{}, sample.Drawer(row))) {
			t.Errorf("Insert of %+v = %+v %d", row, got, why)
		}
	}
}

// TestRows: P13.7, of the drawers that are open, by rising keys.
func TestRows(t *testing.T) {
	x := numbers(cellsOf(5, math.MinInt, math.MaxInt, -5), cellsOf(0, 9, 0, 5))
	first, second := []int{math.MinInt, -5, 5, math.MaxInt}, []int{5, 9}
	for open, want := range map[[api.Drawers]bool][]int{
		{}: nil, {true}: first, {false, true}: second, {true, true}: slices.Concat(first, second),
	} {
		l, why := Rows(x, open)
		var keys []int
		for _, row := range l {
			keys = append(keys, row[0].Int)
			if len(row) != 1 || row[0].Kind != api.Int {
				t.Errorf("Rows tells the row %+v", row)
			}
		}
		if why != api.OK || !slices.Equal(keys, want) {
			t.Errorf("Rows of %v = %v %d, want %v", open, keys, why, want)
		}
	}
	for _, open := range [][api.Drawers]bool{{}, {true}, {true, true}} {
		if l, why := Rows(sample.Table(sample.KeyColumn()), open); len(l) != 0 || why != api.OK {
			t.Errorf("Rows of a table without rows = %+v %d", l, why)
		}
	}
}

// TestRowsWhole: P13.7, rows of all columns, as they stand; in two drawers they may be the same.
func TestRowsWhole(t *testing.T) {
	late, early := sample.Row(sample.Int(4), sample.Bool(1), sample.Int(1), sample.Null(), sample.Text("a")), sample.Row(sample.Int(3), sample.Bool(1), sample.Int(2), sample.Real(0), sample.Text("b"))
	l, why := Rows(sample.Table(sample.KeyedColumns(), sample.Drawer(late, early), sample.Drawer(nil, late)), [api.Drawers]bool{true, true})
	if why != api.OK || !reflect.DeepEqual(l, [][]api.Value{early, late, late}) {
		t.Errorf("Rows = %+v %d", l, why)
	}
}

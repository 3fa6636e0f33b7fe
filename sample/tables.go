package sample

import (
	"math"
	"slices"

	"chirograph/api"
)

// Row of values.
func Row(values ...api.Value) []api.Value { return values }

// Drawer of rows, from its first cell on; in the cell of a row without values there is none.
func Drawer(rows ...[]api.Value) [api.Slots]api.Cell {
	var d [api.Slots]api.Cell
	for i, row := range rows {
		if len(row) > 0 {
			d[i] = api.Cell{Full: true, Row: row}
		}
	}
	return d
}

// Keys: a drawer of rows of a number each.
func Keys(keys ...int) [api.Slots]api.Cell {
	var rows [][]api.Value
	for _, k := range keys {
		rows = append(rows, Row(Int(k)))
	}
	return Drawer(rows...)
}

// Table of columns and drawers, which need not be one that may be.
func Table(cols []api.Column, drawers ...[api.Slots]api.Cell) api.Table {
	t := api.Table{There: true, Name: "t", Cols: cols}
	copy(t.Drawers[:], drawers)
	return t
}

// KeyColumn: a column alone.
func KeyColumn() []api.Column { return []api.Column{Filled("k", api.Int)} }

// KeyedColumns: those of Columns, the one that may not be null first, as a key.
func KeyedColumns() []api.Column { return keyFirst(Columns()) }

// KeyedRows of such columns, by chance.
func KeyedRows(chance func(n int) int, n int) [][]api.Value {
	l := Rows(chance, n)
	for i, row := range l {
		l[i] = keyFirst(row)
	}
	return l
}

// keyFirst: the last one of those that stand as Columns do.
func keyFirst[T any](l []T) []T {
	n := len(l) - 1
	return slices.Concat(l[n:], l[:n])
}

// Tables that may be: names up to their edges, each number of columns, each way in which cells may be full, and the same keys in two drawers.
func Tables() []api.Table {
	one, all := KeyColumn(), KeyedColumns()
	nulls, full := Row(Int(-1), Null(), Null(), Null(), Null()), Row(Int(7), Bool(1), Int(math.MinInt), Real(-1.5), Text(Long(api.MaxText)))
	var l []api.Table
	for _, name := range []string{"a", "z9", "t_", "abcdefgh", Long(api.MaxName)} {
		t := Table(one, Keys(1))
		t.Name = name
		l = append(l, t)
	}
	for n := 1; n <= len(all); n++ {
		l = append(l, Table(all[:n]), Table(all[:n], Drawer(nulls[:n], full[:n]), Drawer(full[:n], nil, nulls[:n])))
	}
	for ways := range 1 << api.Slots {
		var some, others [api.Slots]api.Cell
		for i, c := range Keys(4, math.MaxInt, math.MinInt, 0) {
			if ways>>i&1 == 1 {
				some[i], others[api.Slots-1-i] = c, c
			}
		}
		l = append(l, Table(one, some), Table(one, [api.Slots]api.Cell{}, some), Table(one, some, others))
	}
	bare := Table(one, Keys(3, 2, 1))
	bare.Drawers[0][api.Slots-1].Row = []api.Value{}
	return append(l, bare)
}

// WrongTables that may not be, and why; of those with more than one fault the first one.
func WrongTables() map[api.Errno][]api.Table {
	one := KeyColumn()
	two := TwoColumns()
	l := map[api.Errno][]api.Table{
		api.ErrNone: {{}, {Name: "t", Cols: one}, {Name: "T", Cols: make([]api.Column, api.MaxCols+1)}},
		api.ErrSize: {
			Table(make([]api.Column, api.MaxCols+1)), Table(append(KeyedColumns(), Filled("k", api.Int)), Keys(1)),
			Table(one, Drawer(Row(Int(1), Int(2)))), Table(two, Keys(1)), Table(two, Drawer(Row(Int(1), Text(Long(api.MaxText+1))))),
		},
		api.ErrKind: {
			Table([]api.Column{{Name: "k"}}), Table([]api.Column{Filled("k", api.Int), Filled("a", 5)}, Keys(1)), Table([]api.Column{Filled("k", -1)}),
			Table(one, Drawer(Row(Text("1")))), Table(one, Drawer(Row(Bool(1)))), Table(two, Drawer(Row(Int(1), Int(1)))), Table(one, Drawer(Row(api.Value{Kind: 9}))),
		},
		api.ErrForm: {
			Table(nil), Table([]api.Column{}, Keys(1)), Table([]api.Column{Column("k", api.Int)}, Keys(1)), Table([]api.Column{Filled("k", api.Bool)}), Table([]api.Column{Filled("k", api.Real)}), Table([]api.Column{Filled("k", api.Text), Filled("a", api.Int)}),
			Table([]api.Column{Filled("K", api.Int)}), Table([]api.Column{{}}), Table([]api.Column{Filled("k", api.Int), Filled("", api.Text)}),
			Table(two, Drawer(Row(Int(1), Text("\xff")))), Table(one, Drawer(Row(api.Value{Kind: api.Int, Int: 1, Text: "a"}))),
		},
		api.ErrTwice: {
			Table([]api.Column{Filled("k", api.Int), Filled("k", api.Int)}), Table([]api.Column{Filled("k", api.Text), Filled("k", api.Text)}, Keys(1)),
			Table(one, Keys(1, 1)), Table(one, Keys(1, 2, 3, 1)), Table(one, Keys(1), Keys(4, 3, 3)), Table(two, Drawer(Row(Int(1), Text("a")), Row(Int(2), Text("a")), Row(Int(1), Text("b")))),
		},
		api.ErrNull: {
			Table(one, Drawer(Row(Null()))), Table(two, Drawer(Row(Int(1), Null()))), Table(two, Drawer(Row(Int(1), Text(""))), Drawer(nil, Row(Null(), Text("")))),
		},
	}
	for _, name := range WrongNames() {
		t, worse := Table(one), Table(make([]api.Column, api.MaxCols+1), Keys(1, 1))
		t.Name, worse.Name = name, name
		l[api.ErrForm] = append(l[api.ErrForm], t, worse)
	}
	for i := range api.Drawers {
		for j := range api.Slots {
			t := Table(one)
			t.Drawers[i][j].Row = Row(Int(1)) // it is not Full
			l[api.ErrForm] = append(l[api.ErrForm], t)
		}
	}
	return l
}

// CopyOfTable that shares no list with it.
func CopyOfTable(t api.Table) api.Table {
	t.Cols = slices.Clone(t.Cols)
	for i, d := range t.Drawers {
		for j, c := range d {
			t.Drawers[i][j].Row = slices.Clone(c.Row)
		}
	}
	return t
}

// RoomyTable: a copy with spare room behind each list, that something stands in.
func RoomyTable(t api.Table) api.Table {
	t.Cols = append(slices.Clone(t.Cols), Column("spare", api.Text))[:len(t.Cols)]
	for i, d := range t.Drawers {
		for j, c := range d {
			t.Drawers[i][j].Row = append(slices.Clone(c.Row), Text("spare"), Int(77))[:len(c.Row)]
		}
	}
	return t
}

// WholeTable: a copy with the spare room of each list.
func WholeTable(t api.Table) api.Table {
	t.Cols = t.Cols[:cap(t.Cols)]
	for i, d := range t.Drawers {
		for j, c := range d {
			t.Drawers[i][j].Row = c.Row[:cap(c.Row)]
		}
	}
	return CopyOfTable(t)
}

// SpoilTable: each list, with its spare room, so that others that share its memory are seen to change.
func SpoilTable(t api.Table) {
	SpoilList(t.Cols, Column("spoilt", api.Real))
	for _, d := range t.Drawers {
		for _, c := range d {
			SpoilList(c.Row, Text("spoilt"))
		}
	}
}

// SpoilList with something, in its spare room, too.
func SpoilList[T any](l []T, with T) {
	for i := range l[:cap(l)] {
		l[:cap(l)][i] = with
	}
}

package sample

import (
	"math"
	"slices"

	"chirograph/api"
)

// FiveRows of KeyedColumns, some of which are the same in a column.
func FiveRows() [][]api.Value {
	yes, no, null := Bool(1), Bool(0), Null()
	return [][]api.Value{
		Row(Int(4), yes, Int(7), Real(0), Text("b")),
		Row(Int(1), yes, Int(5), Real(1.5), Text("b")),
		Row(Int(5), yes, null, Real(1.5), Text("")),
		Row(Int(2), null, null, null, Text("a")),
		Row(Int(3), no, Int(5), Real(math.Inf(-1)), null),
	}
}

// Numbers: rows of a number each.
func Numbers(l ...int) [][]api.Value {
	var rows [][]api.Value
	for _, n := range l {
		rows = append(rows, Row(Int(n)))
	}
	return rows
}

// RowsToAsk of Columns, by chance: at times too many, or one that does not fit.
func RowsToAsk(chance func(n int) int) [][]api.Value {
	rows := Rows(chance, chance(1+chance(20)))
	switch chance(60) {
	case 0:
		rows = Rows(chance, api.MaxRows-1+chance(3))
	case 1:
		rows = append(rows, make([]api.Value, 4+chance(3)))
	case 2:
		rows = append(rows, Row(Int(1), Null(), Null(), Null(), Int(1)))
	}
	return rows
}

// Asked: a query, and what it is asked of.
type Asked struct {
	Cols  []api.Column
	Rows  [][]api.Value
	Query api.Query
}

// Roomy: a copy with spare room behind each list, that something stands in.
func (a Asked) Roomy() Asked {
	rows := append(slices.Clone(a.Rows), Row(Text("spare")), nil)
	for i, row := range rows {
		rows[i] = append(slices.Clone(row), Text("spare"), Int(77))[:len(row)]
	}
	cols := append(slices.Clone(a.Cols), Column("spare", api.Bool))
	return Asked{cols[:len(a.Cols)], rows[:len(a.Rows)], RoomyQuery(a.Query)}
}

// Whole: a copy with the spare room of each list.
func (a Asked) Whole() Asked {
	rows := slices.Clone(a.Rows[:cap(a.Rows)])
	for i, row := range rows {
		rows[i] = slices.Clone(row[:cap(row)])
	}
	return Asked{slices.Clone(a.Cols[:cap(a.Cols)]), rows, WholeQuery(a.Query)}
}

// SameRows tells whether two lists have the same rows; nil is as good as none.
func SameRows(a, b [][]api.Value) bool { return slices.EqualFunc(a, b, slices.Equal) }

// CopyOfRows that shares no list with them.
func CopyOfRows(rows [][]api.Value) [][]api.Value {
	var l [][]api.Value
	for _, row := range rows {
		l = append(l, slices.Clone(row))
	}
	return l
}

// RowsApart tells whether the lists of an answer share nothing, spare room neither, with each other or with those of another call.
func RowsApart(of func() [][]api.Value) bool {
	other := of()
	kept := CopyOfRows(other)
	for i := range kept {
		l := of()
		SpoilList(l[i], Text("spoilt"))
		copy(l[i], kept[i])
		if !SameRows(l, kept) {
			return false
		}
		SpoilList(l[i], Text("spoilt"))
		SpoilList(l, nil)
	}
	return SameRows(other, kept) && SameRows(of(), kept)
}

// TextsApart tells whether the bytes of no text of an answer are shared with those of another one of its own, of another call or of what was handed in; at tells where they lie, which only a test may ask.
func TextsApart(at func(s string) *byte, handed [][]api.Value, of func() [][]api.Value) bool {
	var seen []*byte
	for _, v := range slices.Concat(handed...) {
		seen = append(seen, at(v.Text))
	}
	for _, v := range slices.Concat(slices.Concat(of(), of())...) {
		if v.Text != "" && slices.Contains(seen, at(v.Text)) {
			return false
		}
		seen = append(seen, at(v.Text))
	}
	return true
}

// Bare tells whether nothing stands in the spare room behind rows.
func Bare(rows [][]api.Value) bool {
	return !slices.ContainsFunc(rows[len(rows):cap(rows)], func(row []api.Value) bool { return row != nil })
}

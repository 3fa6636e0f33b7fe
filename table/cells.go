package table

import (
	"cmp"
	"slices"

	"chirograph/api"
	"chirograph/fresh"
	"chirograph/kinds"
)

// cells of a drawer, handed on by value: who changes them changes no others.
type cells [api.Slots]api.Cell

// checkCells one by one, then their keys.
func checkCells(d cells, cols []api.Column) api.Errno {
	for _, c := range d {
		if why := checkCell(c, cols); why != api.OK {
			return why
		}
	}
	return checkKeys(d)
}

func checkCell(c api.Cell, cols []api.Column) api.Errno {
	switch {
	case c.Full:
		return kinds.Row(c.Row, cols)
	case len(c.Row) > 0:
		return api.ErrForm
	}
	return api.OK
}

// checkKeys: no two rows may have the same one.
func checkKeys(d cells) api.Errno {
	for i, c := range d {
		if c.Full && hasKey(d[:i], c.Row) {
			return api.ErrTwice
		}
	}
	return api.OK
}

// hasKey tells whether one of these cells has a row with the key of that one.
func hasKey(l []api.Cell, row []api.Value) bool {
	return slices.ContainsFunc(l, func(c api.Cell) bool { return c.Full && byKey(c.Row, row) == 0 })
}

// byKey: how two rows stand in a drawer.
func byKey(a, b []api.Value) int {
	return cmp.Compare(a[key].Int, b[key].Int)
}

// with a row, which fits, in the first cell that is not Full.
func with(d cells, row []api.Value) (cells, api.Errno) {
	if hasKey(d[:], row) {
		return cells{}, api.ErrTwice
	}
	i := slices.IndexFunc(d[:], func(c api.Cell) bool { return !c.Full })
	if i < 0 {
		return cells{}, api.ErrFull
	}
	d[i] = api.Cell{Full: true, Row: row}
	return d, api.OK
}

// remade: the cells, where a condition holds of their rows, as one makes them of these; and how many those are.
func remade(d cells, holds func(row []api.Value) (bool, api.Errno), made func(row []api.Value) (api.Cell, api.Errno)) (cells, int, api.Errno) {
	n := 0
	for i, c := range d {
		if !c.Full {
			continue
		}
		ok, why := holds(c.Row)
		if ok {
			n++
			d[i], why = made(c.Row)
		}
		if why != api.OK {
			return cells{}, 0, why
		}
	}
	return d, n, api.OK
}

// rising: copies of the rows, by rising keys.
func rising(d cells) [][]api.Value {
	var l [][]api.Value
	for _, c := range d {
		if c.Full {
			l = append(l, fresh.Row(c.Row))
		}
	}
	slices.SortFunc(l, byKey)
	return l
}

// Package fresh: copies that share no memory with what they are of, for the layers that answer what they were handed.
package fresh

import (
	"strings"

	"chirograph/api"
)

// Value is a copy of a value.
func Value(v api.Value) api.Value {
	v.Text = strings.Clone(v.Text)
	return v
}

// Row is a copy of a row; nil of one without values.
func Row(row []api.Value) []api.Value {
	var l []api.Value
	for _, v := range row {
		l = append(l, Value(v))
	}
	return l
}

// Columns are copies of columns.
func Columns(cols []api.Column) []api.Column {
	var l []api.Column
	for _, c := range cols {
		c.Name = strings.Clone(c.Name)
		l = append(l, c)
	}
	return l
}

// Table is a copy of a table, of its columns and rows, too.
func Table(t api.Table) api.Table {
	t.Name = strings.Clone(t.Name)
	t.Cols = Columns(t.Cols)
	for i, cells := range t.Drawers {
		for j, c := range cells {
			t.Drawers[i][j].Row = Row(c.Row)
		}
	}
	return t
}

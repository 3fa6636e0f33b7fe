package fresh

import (
	"math/rand"
	"reflect"
	"slices"
	"testing"
	"unsafe"

	"chirograph/api"
	"chirograph/sample"
)

// TestValues: each is as it was.
func TestValues(t *testing.T) {
	for kind := api.Null; kind <= api.Text; kind++ {
		for _, v := range sample.ValuesOf(kind) {
			if got := Value(v); got != v {
				t.Errorf("a copy of %+v is %+v", v, got)
			}
		}
	}
}

// TestRowsAndColumns: they are as they were, and stay so, whatever becomes of what they are of; where there is nothing there is no list.
func TestRowsAndColumns(t *testing.T) {
	chance := rand.New(rand.NewSource(1))
	for n := range api.MaxCols + 1 {
		row, cols := sample.Rows(chance.Intn, 1)[0][:n], sample.Columns()[:n]
		wantRow, wantCols := slices.Clone(row), slices.Clone(cols)
		gotRow, gotCols := Row(row), Columns(cols)
		sample.SpoilList(row, sample.Text("spoilt"))
		sample.SpoilList(cols, sample.Column("spoilt", api.Real))
		if !slices.Equal(gotRow, wantRow) || !slices.Equal(gotCols, wantCols) {
			t.Errorf("copies of %+v and %+v are %+v and %+v", wantRow, wantCols, gotRow, gotCols)
		}
		if n == 0 && (gotRow != nil || gotCols != nil) {
			t.Errorf("copies of nothing are %#v and %#v", gotRow, gotCols)
		}
	}
}

// TestTables: they are as they were, and stay so; so do those that they are of.
func TestTables(t *testing.T) {
	for _, x := range sample.Tables() {
		x = sample.RoomyTable(x)
		want, whole := sample.CopyOfTable(x), sample.WholeTable(x)
		got, other := Table(x), Table(x)
		sample.SpoilTable(got)
		if !reflect.DeepEqual(sample.WholeTable(x), whole) {
			t.Errorf("%+v was changed by its copy", want)
		}
		sample.SpoilTable(x)
		for i, d := range want.Drawers {
			for j, c := range d {
				if !slices.Equal(other.Drawers[i][j].Row, c.Row) || other.Drawers[i][j].Full != c.Full {
					t.Errorf("the cell %d %d of a copy of %+v is %+v", i, j, want, other.Drawers[i][j])
				}
				if len(c.Row) == 0 && other.Drawers[i][j].Row != nil {
					t.Errorf("the cell %d %d of a copy of %+v has a list", i, j, want)
				}
			}
		}
		if other.There != want.There || other.Name != want.Name || !slices.Equal(other.Cols, want.Cols) {
			t.Errorf("a copy of %+v is %+v", want, other)
		}
	}
}

// TestTexts: their bytes, too, are others.
func TestTexts(t *testing.T) {
	apart := func(a, b string) bool { return a == b && unsafe.StringData(a) != unsafe.StringData(b) }
	x := sample.Table(sample.KeyColumn())
	y := Table(x)
	text := sample.Text("a")
	if !apart(text.Text, Value(text).Text) || !apart(x.Name, y.Name) || !apart(x.Cols[0].Name, y.Cols[0].Name) {
		t.Error("texts share their bytes")
	}
}

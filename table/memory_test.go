package table

import (
	"reflect"
	"slices"
	"testing"

	"chirograph/api"
	"chirograph/sample"
	"chirograph/written"
)

// handed: all that the calls are given, with spare room behind each list.
type handed struct {
	table api.Table
	row   []api.Value
	where []api.Expr
	sets  []api.Set
}

// whole of it, with its spare room.
func (h handed) whole() handed {
	sets := slices.Clone(h.sets[:cap(h.sets)])
	for i, s := range sets {
		sets[i].Expr.Args = sample.WholeOf(s.Expr.Args)
	}
	return handed{sample.WholeTable(h.table), slices.Clone(h.row[:cap(h.row)]), sample.WholeOf(h.where), sets}
}

// someHanded in: a drawer with room for one row more.
func someHanded() handed {
	x := rowsOfAll()
	x.Drawers[0][2] = api.Cell{}
	x.Drawers[1] = x.Drawers[0]
	roomy := sample.Roomy([]api.Expr{written.Expr("i + x"), written.Expr("t || 'b'"), written.Expr("NOT b"), written.Expr("r")})
	sets := []api.Set{{Col: "i", Expr: roomy[0]}, {Col: "t", Expr: roomy[1]}, {Col: "r", Expr: roomy[3]}, {Col: "b", Expr: roomy[2]}}
	return handed{
		table: sample.RoomyTable(x),
		row:   append(sample.Row(sample.Int(9), sample.Bool(1), sample.Null(), sample.Null(), sample.Text("new")), sample.Text("spare"))[:api.MaxCols],
		where: sample.Roomy([]api.Expr{written.Expr("x > 0 AND ( x < 3 OR r IS NULL )"), {}, written.Expr("FALSE")}),
		sets:  sets[:3],
	}
}

// calls: each way to be answered a table, on each drawer.
func calls(h handed) []func() api.Table {
	var l []func() api.Table
	for drawer := range api.Drawers {
		l = append(l, func() api.Table { x, _ := Insert(h.table, drawer, h.row); return x })
		for i := range h.where {
			l = append(l, func() api.Table { x, _, _ := Update(h.table, drawer, h.where[i], h.sets); return x })
			l = append(l, func() api.Table { x, _, _ := Delete(h.table, drawer, h.where[i]); return x })
		}
	}
	return l
}

// TestNothingIsChanged: what is handed in stays as it is, its spare room, too, be there a fault or not.
func TestNothingIsChanged(t *testing.T) {
	h := someHanded()
	before := h.whole()
	for _, call := range calls(h) {
		if isNone(call()) {
			t.Error("a call was refused")
		}
	}
	Check(h.table)
	Rows(h.table, [api.Drawers]bool{true, true})
	for _, l := range [][]api.Set{{setting("x", "1")}, {setting("i", "7"), setting("x", "NULL")}, {setting("i", "7"), setting("t", "'' || ( 1 / 0 )")}, {setting("i", "1 / ( x - 3 )")}} {
		if x, _, why := Update(h.table, 0, api.Expr{}, l); !isNone(x) || why == api.OK {
			t.Errorf("Update by %+v is not refused", l)
		}
	}
	Delete(h.table, 1, written.Expr("1 / ( x - 3 ) < 1"))
	for _, row := range h.table.Drawers[0] {
		Holds(h.where[0], h.table.Cols, row.Row)
	}
	if !reflect.DeepEqual(h.whole(), before) {
		t.Errorf("what was handed in was changed: %+v, it was %+v", h.whole(), before)
	}
}

// rowsIn a table, the empty ones left out.
func rowsIn(x api.Table) [][]api.Value {
	var l [][]api.Value
	for _, d := range x.Drawers {
		for _, c := range d {
			if cap(c.Row) > 0 {
				l = append(l, c.Row)
			}
		}
	}
	return l
}

// TestAnswersAreNew: no list of an answer is shared with what was handed in, with another answer, or with another list of its own.
func TestAnswersAreNew(t *testing.T) {
	h := someHanded()
	before := h.whole()
	for i, call := range calls(h) {
		want := sample.CopyOfTable(call())
		other := call()
		for k := range rowsIn(want) {
			x := call()
			l := rowsIn(x)
			kept := slices.Clone(l[k])
			sample.SpoilList(l[k], sample.Text("spoilt"))
			copy(l[k], kept)
			if !same(x, want) {
				t.Errorf("call %d: the row %d of the answer is shared with another one", i, k)
			}
			sample.SpoilTable(x)
		}
		if !same(other, want) || !same(call(), want) || !reflect.DeepEqual(h.whole(), before) {
			t.Errorf("call %d: the answer is shared", i)
		}
	}
}

// TestRowsAreNew: P13.7, the same of the rows that are told.
func TestRowsAreNew(t *testing.T) {
	h := someHanded()
	before := h.whole()
	told := func() [][]api.Value {
		l, why := Rows(h.table, [api.Drawers]bool{true, true})
		if why != api.OK || len(l) != 6 {
			t.Fatalf("Rows = %+v %d", l, why)
		}
		return l
	}
	want, other := told(), told()
	for k := range want {
		l := told()
		sample.SpoilList(l[k], sample.Text("spoilt"))
		for m := range l {
			if m != k && !slices.Equal(l[m], want[m]) {
				t.Errorf("the rows %d and %d are shared", k, m)
			}
		}
		sample.SpoilList(l, nil)
	}
	if !reflect.DeepEqual(other, want) || !reflect.DeepEqual(h.whole(), before) {
		t.Error("the rows are shared")
	}
}

// TestSharedRows: two drawers that were handed in with the same list are answered with one each.
func TestSharedRows(t *testing.T) {
	h := someHanded()
	h.table.Drawers[1] = h.table.Drawers[0]
	for i, call := range calls(h) {
		x := call()
		want := sample.CopyOfTable(x)
		for _, c := range x.Drawers[0] {
			sample.SpoilList(c.Row, sample.Text("spoilt"))
		}
		x.Drawers[0] = want.Drawers[0]
		if !same(x, want) {
			t.Errorf("call %d: the drawers of the answer share rows", i)
		}
	}
}

package index

import (
	"reflect"
	"slices"
	"testing"
	"unsafe"

	"chirograph/api"
	"chirograph/sample"
	"chirograph/written"
)

// at: where the bytes of a text lie.
func at(s string) *byte { return unsafe.StringData(s) }

// queries as they are written: those of package written, which leave all rows, and some that leave some.
func queries() []string {
	return append(written.Queries(), "t , x , t WHERE x > 1", "MIN ( t ) , MAX ( t ) WHERE i < 9", "t , COUNT ( * ) WHERE x <= 4 GROUP BY t", "t , x WHERE x >= 2 ORDER BY 1 LIMIT 2", "x WHERE x > 9")
}

// TestNothingIsChanged: what is handed in stays as it is, its spare room, too, be there a fault or not.
func TestNothingIsChanged(t *testing.T) {
	for _, text := range append(queries(), written.Refused()...) {
		for _, col := range []string{"x", "i", "t", "y"} {
			a := written.Asked(text)
			before := a.Whole()
			Build(a.Cols, a.Rows, col)
			Run(a.Cols, a.Rows, a.Query, col)
			if !reflect.DeepEqual(a.Whole(), before) {
				t.Errorf("%s, by %s, changed what was handed in: %+v, it was %+v", text, col, a.Whole(), before)
			}
		}
	}
}

// TestAnswersAreNew: no list and no text of an answer is shared with what was handed in, with another answer, or with another one of its own; nothing stands in its spare room.
func TestAnswersAreNew(t *testing.T) {
	for _, text := range queries() {
		for _, col := range []string{"x", "i"} {
			a := written.Asked(text)
			before := a.Whole()
			answer := func() [][]api.Value { told, _ := Run(a.Cols, a.Rows, a.Query, col); return told }
			if !sample.RowsApart(answer) || !sample.TextsApart(at, a.Rows, answer) || !reflect.DeepEqual(a.Whole(), before) {
				t.Errorf("%s, by %s: what is told is shared", text, col)
			}
			if !sample.Bare(answer()) {
				t.Errorf("%s, by %s: something stands behind what is told", text, col)
			}
		}
	}
}

// TestTreesAreNew: no list of a tree is shared with another one of its own or of another answer.
func TestTreesAreNew(t *testing.T) {
	for n := range 30 {
		rows := sample.Numbers(slices.Repeat([]int{5, 3, 9}, 10)[:n]...)
		if !sample.TreesApart(func() api.Tree { built, _ := Build(sample.KeyColumn(), rows, "k"); return built }) {
			t.Errorf("a tree of %d rows is shared", n)
		}
	}
}

// TestPickedIsNew: a tree of which rows are picked stays as it is, its spare room, too, and what is picked is shared with nothing.
func TestPickedIsNew(t *testing.T) {
	built, _ := Build(sample.KeyColumn(), sample.Numbers(5, 3, 9, 5, 5, 1, 2, 0, 7, 5), "k")
	for _, r := range []api.Range{{Lo: lowest, Hi: highest}, {Lo: 5, Hi: 5}, {Lo: 2, Hi: 7}, {Lo: 1, Hi: 0}} {
		given := sample.RoomyTree(built)
		before := sample.WholeTree(given)
		l, _ := Pick(given, r)
		other, _ := Pick(given, r)
		kept := slices.Clone(other)
		sample.SpoilList(l, 77)
		if again, _ := Pick(given, r); !slices.Equal(other, kept) || !slices.Equal(again, kept) || !reflect.DeepEqual(sample.WholeTree(given), before) {
			t.Errorf("what is picked of %+v is shared, or has changed the tree", r)
		}
	}
	for _, trees := range sample.WrongTrees() {
		for _, wrong := range trees {
			given := sample.RoomyTree(wrong)
			before := sample.WholeTree(given)
			Pick(given, api.Range{Lo: lowest, Hi: highest})
			if !reflect.DeepEqual(sample.WholeTree(given), before) {
				t.Errorf("%+v became %+v", before, sample.WholeTree(given))
			}
		}
	}
}

package query

import (
	"reflect"
	"testing"
	"unsafe"

	"chirograph/api"
	"chirograph/sample"
	"chirograph/written"
)

// answerTo what is handed in, time and again.
func answerTo(a sample.Asked) func() [][]api.Value {
	return func() [][]api.Value {
		told, _ := Run(a.Cols, a.Rows, a.Query)
		return told
	}
}

// at: where the bytes of a text lie.
func at(s string) *byte { return unsafe.StringData(s) }

// TestNothingIsChanged: what is handed in stays as it is, its spare room, too, be there a fault or not.
func TestNothingIsChanged(t *testing.T) {
	for _, text := range append(written.Queries(), written.Refused()...) {
		a := written.Asked(text)
		before := a.Whole()
		answerTo(a)()
		Check(a.Cols, a.Query)
		if !reflect.DeepEqual(a.Whole(), before) {
			t.Errorf("%s changed what was handed in: %+v, it was %+v", text, a.Whole(), before)
		}
	}
}

// TestAnswersAreNew: no list and no text of an answer is shared with what was handed in, with another answer, or with another one of its own.
func TestAnswersAreNew(t *testing.T) {
	for _, text := range written.Queries() {
		a := written.Asked(text)
		before := a.Whole()
		if told, why := Run(a.Cols, a.Rows, a.Query); why != api.OK {
			t.Errorf("%s tells %s (%d)", text, written.Rows(told), why)
		}
		if !sample.RowsApart(answerTo(a)) || !sample.TextsApart(at, a.Rows, answerTo(a)) || !reflect.DeepEqual(a.Whole(), before) {
			t.Errorf("%s: what is told is shared", text)
		}
	}
}

// TestSpareRoom: P14.4, what is cut off isn't there behind what is told either.
func TestSpareRoom(t *testing.T) {
	for _, text := range []string{"t LIMIT 2", "x LIMIT 0", "x ORDER BY 1 DESC LIMIT 1", "t , COUNT ( * ) GROUP BY t LIMIT 3"} {
		if !sample.Bare(answerTo(written.Asked(text))()) {
			t.Errorf("%s: something stands behind what is told", text)
		}
	}
}

package split

import (
	"reflect"
	"testing"
	"unsafe"

	"chirograph/api"
	"chirograph/sample"
	"chirograph/written"
)

// answerTo what is handed in, by so many workers, time and again.
func answerTo(a sample.Asked, workers int) func() [][]api.Value {
	return func() [][]api.Value {
		told, _ := Run(a.Cols, a.Rows, a.Query, workers)
		return told
	}
}

// at: where the bytes of a text lie.
func at(s string) *byte { return unsafe.StringData(s) }

// TestNothingIsChanged: what is handed in stays as it is, its spare room, too, be there a fault or not.
func TestNothingIsChanged(t *testing.T) {
	for _, text := range append(written.Queries(), written.Refused()...) {
		for workers := range api.MaxWork + 2 {
			a := written.Asked(text)
			before := a.Whole()
			answerTo(a, workers)()
			if !reflect.DeepEqual(a.Whole(), before) {
				t.Errorf("%s, asked by %d workers, changed what was handed in: %+v, it was %+v", text, workers, a.Whole(), before)
			}
		}
	}
}

// TestAnswersAreNew: no list and no text of an answer is shared with what was handed in, with another answer, or with another one of its own; nothing stands in its spare room.
func TestAnswersAreNew(t *testing.T) {
	for _, text := range written.Queries() {
		for workers := 1; workers <= api.MaxWork; workers++ {
			a := written.Asked(text)
			before := a.Whole()
			if !sample.RowsApart(answerTo(a, workers)) || !sample.TextsApart(at, a.Rows, answerTo(a, workers)) || !reflect.DeepEqual(a.Whole(), before) {
				t.Errorf("%s, asked by %d workers: what is told is shared", text, workers)
			}
			if !sample.Bare(answerTo(a, workers)()) {
				t.Errorf("%s, asked by %d workers: something stands behind what is told", text, workers)
			}
		}
	}
}

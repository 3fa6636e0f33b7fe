package query

import (
	"reflect"
	"slices"
	"testing"
	"unsafe"

	"chirograph/api"
	"chirograph/sample"
	"chirograph/written"
)

// handed: all that a call is given, with spare room behind each list.
type handed struct {
	cols  []api.Column
	rows  [][]api.Value
	query api.Query
}

// whole of it, with its spare room.
func (h handed) whole() handed {
	rows := slices.Clone(h.rows[:cap(h.rows)])
	for i, row := range rows {
		rows[i] = slices.Clone(row[:cap(row)])
	}
	return handed{slices.Clone(h.cols[:cap(h.cols)]), rows, sample.WholeQuery(h.query)}
}

// handedIn with a query as it is written.
func handedIn(text string) handed {
	rows := append(someRows(), sample.Row(sample.Text("spare")), nil)
	for i, row := range rows {
		rows[i] = append(slices.Clone(row), sample.Text("spare"), sample.Int(77))[:len(row)]
	}
	cols := append(sample.KeyedColumns(), sample.Column("spare", api.Bool))
	return handed{cols[:api.MaxCols], rows[:5], sample.RoomyQuery(written.Query(text))}
}

func (h handed) run() ([][]api.Value, api.Errno) {
	return Run(h.cols, h.rows, h.query)
}

// manyWays to ask, of each way to tell.
func manyWays() []string {
	return []string{
		"t , x , t", "x + i , b AND TRUE , 'a' , t || 'b'", "t , t WHERE x > 1 AND ( x < 5 OR r IS NULL )", "t , x ORDER BY 1 DESC , 2", "t , 'a' ORDER BY 2 LIMIT 3", "t LIMIT 2", "x LIMIT 0",
		"MIN ( t ) , MAX ( t ) , MAX ( t ) , COUNT ( * )", "SUM ( x + i ) , MIN ( 'a' )", "t , t , MAX ( t ) , MIN ( t ) GROUP BY t", "t , COUNT ( * ) GROUP BY t ORDER BY 2 DESC , 1 LIMIT 3", "t , t GROUP BY t ORDER BY 1",
	}
}

// TestNothingIsChanged: what is handed in stays as it is, its spare room, too, be there a fault or not.
func TestNothingIsChanged(t *testing.T) {
	for _, text := range append(manyWays(), "1 / ( x - 3 ) ORDER BY 1", "SUM ( 9223372036854775807 )", "x WHERE 1 / ( x - 3 ) = 0", "y", "SUM ( t ) ORDER BY 2") {
		h := handedIn(text)
		before := h.whole()
		h.run()
		Check(h.cols, h.query)
		if !reflect.DeepEqual(h.whole(), before) {
			t.Errorf("%s changed what was handed in: %+v, it was %+v", text, h.whole(), before)
		}
	}
}

// copies of rows, which share no list with them.
func copies(rows [][]api.Value) [][]api.Value {
	var l [][]api.Value
	for _, row := range rows {
		l = append(l, slices.Clone(row))
	}
	return l
}

func same(a, b [][]api.Value) bool { return slices.EqualFunc(a, b, slices.Equal) }

// TestAnswersAreNew: no list of an answer is shared with what was handed in, with another answer, or with another list of its own.
func TestAnswersAreNew(t *testing.T) {
	for _, text := range manyWays() {
		h := handedIn(text)
		before := h.whole()
		other, why := h.run()
		want := copies(other)
		if why != api.OK {
			t.Errorf("%s is refused: %d", text, why)
		}
		for i := range want {
			told, _ := h.run()
			sample.SpoilList(told[i], sample.Text("spoilt"))
			copy(told[i], want[i])
			if !same(told, want) {
				t.Errorf("%s: the row %d that is told is shared with another one", text, i)
			}
			sample.SpoilList(told[i], sample.Text("spoilt"))
			sample.SpoilList(told, nil)
		}
		if again, _ := h.run(); !same(other, want) || !same(again, want) || !reflect.DeepEqual(h.whole(), before) {
			t.Errorf("%s: what is told is shared", text)
		}
	}
}

// TestSpareRoom: P14.4, what is cut off isn't there behind what is told either.
func TestSpareRoom(t *testing.T) {
	for _, text := range []string{"t LIMIT 2", "x LIMIT 0", "x ORDER BY 1 DESC LIMIT 1", "t , COUNT ( * ) GROUP BY t LIMIT 3"} {
		told, _ := handedIn(text).run()
		for _, row := range told[len(told):cap(told)] {
			if row != nil {
				t.Errorf("%s: behind what is told stands %+v", text, row)
			}
		}
	}
}

// TestTexts: the bytes of each text that is told are new, too.
func TestTexts(t *testing.T) {
	for _, text := range manyWays() {
		h := handedIn(text)
		seen := map[*byte]string{}
		for _, row := range h.rows {
			seen[unsafe.StringData(row[4].Text)] = "what was handed in"
		}
		for _, call := range []string{"what is told", "what is told again"} {
			told, _ := h.run()
			for _, v := range slices.Concat(told...) {
				if v.Text == "" {
					continue
				}
				p := unsafe.StringData(v.Text)
				if other, there := seen[p]; there {
					t.Errorf("%s: '%s' in %s is shared with %s", text, v.Text, call, other)
				}
				seen[p] = call
			}
		}
	}
}

package index

import (
	"encoding/binary"
	"math"
	"math/rand"
	"slices"
	"strings"
	"testing"

	"chirograph/api"
	"chirograph/sample"
	"chirograph/tree"
)

// The ends of all numbers.
const (
	lowest  = math.MinInt
	highest = math.MaxInt
)

// keyOf a value in a place, byte by byte as P2.2 and P16.1 say.
func keyOf(v api.Value, place int) string {
	b := []byte{1}
	if v != sample.Null() {
		b = binary.BigEndian.AppendUint64([]byte{3}, uint64(v.Int)+1<<63)
	}
	return string(binary.BigEndian.AppendUint16(b, uint16(place)))
}

// pairsOf rows by the column that stands at a place, by rising keys.
func pairsOf(rows [][]api.Value, at int) []api.Pair {
	var l []api.Pair
	for i, row := range rows {
		l = append(l, api.Pair{Key: keyOf(row[at], i), Val: i})
	}
	slices.SortFunc(l, func(a, b api.Pair) int { return strings.Compare(a.Key, b.Key) })
	return l
}

// mustBuild a tree that has just these pairs.
func mustBuild(t *testing.T, cols []api.Column, rows [][]api.Value, col string, want []api.Pair) api.Tree {
	t.Helper()
	built, why := Build(cols, rows, col)
	l, wrong := tree.List(built, "", sample.Long(1000))
	if why != api.OK || wrong != api.OK || !slices.Equal(l, want) {
		t.Fatalf("Build(%+v, %q) = %+v (%d), a tree (%d) of %+v, want %+v", rows, col, built, why, wrong, l, want)
	}
	return built
}

// TestKeys: P16.1, of each number the bytes and the place, as they are told; the same number may stand in several rows, and a null is in the tree, too.
func TestKeys(t *testing.T) {
	null := sample.Row(sample.Null())
	one := sample.Numbers(0)[0]
	for _, c := range []struct {
		rows [][]api.Value
		want []api.Pair
	}{
		{nil, nil},
		{sample.Numbers(0), []api.Pair{{Key: "\x03\x80\x00\x00\x00\x00\x00\x00\x00\x00\x00", Val: 0}}},
		{sample.Numbers(-1), []api.Pair{{Key: "\x03\x7f\xff\xff\xff\xff\xff\xff\xff\x00\x00", Val: 0}}},
		{sample.Numbers(highest, lowest), []api.Pair{{Key: "\x03\x00\x00\x00\x00\x00\x00\x00\x00\x00\x01", Val: 1}, {Key: "\x03\xff\xff\xff\xff\xff\xff\xff\xff\x00\x00", Val: 0}}},
		{sample.Numbers(258, 258, -1, 258), []api.Pair{{Key: "\x03\x7f\xff\xff\xff\xff\xff\xff\xff\x00\x02", Val: 2}, {Key: "\x03\x80\x00\x00\x00\x00\x00\x01\x02\x00\x00", Val: 0}, {Key: "\x03\x80\x00\x00\x00\x00\x00\x01\x02\x00\x01", Val: 1}, {Key: "\x03\x80\x00\x00\x00\x00\x00\x01\x02\x00\x03", Val: 3}}},
		{[][]api.Value{null}, []api.Pair{{Key: "\x01\x00\x00", Val: 0}}},
		{[][]api.Value{one, null, null}, []api.Pair{{Key: "\x01\x00\x01", Val: 1}, {Key: "\x01\x00\x02", Val: 2}, {Key: "\x03\x80\x00\x00\x00\x00\x00\x00\x00\x00\x00", Val: 0}}},
	} {
		mustBuild(t, []api.Column{sample.Column("k", api.Int)}, c.rows, "k", c.want)
	}
}

// TestBuild: P16.1, each number of rows, by each column of numbers.
func TestBuild(t *testing.T) {
	chance := rand.New(rand.NewSource(16))
	for n := range api.MaxRows + 1 {
		rows := sample.RowsNear(chance.Intn, n, api.Range{Lo: -9, Hi: 300}, api.Range{Lo: 1 << 40, Hi: -1 << 33})
		mustBuild(t, sample.Columns(), rows, "i", pairsOf(rows, sample.PlaceOfI))
		mustBuild(t, sample.Columns(), rows, "x", pairsOf(rows, sample.PlaceOfX))
	}
	same := slices.Repeat(sample.Numbers(7), api.MaxRows)
	mustBuild(t, sample.KeyColumn(), same, "k", pairsOf(same, 0))
}

// fault of what is handed in, with what is to be refused for it.
type fault struct {
	want api.Errno
	give func(a *sample.Asked, col *string)
}

// good: what is refused nowhere, where faults may be given to.
func good() (sample.Asked, string) {
	rows := [][]api.Value{sample.Row(sample.Int(5), sample.Text("b")), sample.Row(sample.Int(3), sample.Text(""))}
	return sample.Asked{Cols: sample.TwoColumns(), Rows: rows, Query: sample.Asking(sample.Plain(sample.Col("k")))}, "k"
}

func ofColumns() []fault {
	var l []fault
	for want, columns := range sample.WrongColumns() {
		for _, wrong := range columns {
			l = append(l, fault{want, func(a *sample.Asked, col *string) { a.Cols = wrong }})
		}
	}
	return l
}

// ofCount: more rows than there may be, whatever they are.
func ofCount() []fault {
	var l []fault
	for _, n := range []int{api.MaxRows + 1, 128, 256, 256 + api.MaxRows, 10000} {
		l = append(l, fault{api.ErrSize, func(a *sample.Asked, col *string) { a.Rows = slices.Repeat(a.Rows, n)[:n] }})
	}
	return l
}

// ofRows: one that does not fit, with others behind it.
func ofRows() []fault {
	var l []fault
	for _, w := range sample.WrongRows() {
		l = append(l, fault{w.Why, func(a *sample.Asked, col *string) {
			a.Rows = slices.Concat(a.Rows[:1], [][]api.Value{w.Row, nil, {{Kind: 9}, {}}}, a.Rows[1:])
		}})
	}
	return l
}

// ofColumn: one that there is not, or that is no Int.
func ofColumn() []fault {
	var l []fault
	for _, name := range append(sample.WrongNames(), "y", "kk", "K", "k ", "aa") {
		l = append(l, fault{api.ErrNone, func(a *sample.Asked, col *string) { *col = name }})
	}
	return append(l, fault{api.ErrKind, func(a *sample.Asked, col *string) { *col = "a" }})
}

// eachFault alone, and each two, of which the one that is named first is to be refused.
func eachFault(levels [][]fault, refuses func(want api.Errno, a sample.Asked, col string)) {
	none := []fault{{api.OK, func(a *sample.Asked, col *string) {}}}
	for i, level := range levels {
		for _, early := range level {
			for _, others := range append([][]fault{none}, levels[i+1:]...) {
				for _, late := range others {
					a, col := good()
					late.give(&a, &col)
					early.give(&a, &col)
					refuses(early.want, a, col)
				}
			}
		}
	}
}

// TestBuildRefuses: P16.1, each fault, and which stands first.
func TestBuildRefuses(t *testing.T) {
	eachFault([][]fault{ofColumns(), ofCount(), ofRows(), ofColumn()}, func(want api.Errno, a sample.Asked, col string) {
		if built, why := Build(a.Cols, a.Rows, col); len(built.Nodes) > 0 || why != want {
			t.Errorf("Build(%+v, %+v, %q) = %+v (%d), want none (%d)", a.Cols, a.Rows, col, built, why, want)
		}
	})
}

// TestEachColumn: P16.1, whichever place it has, and whether there are rows or not.
func TestEachColumn(t *testing.T) {
	for _, cols := range [][]api.Column{sample.Columns(), sample.KeyedColumns(), sample.FilledColumns()} {
		for _, c := range cols {
			want := api.OK
			if c.Kind != api.Int {
				want = api.ErrKind
			}
			if built, why := Build(cols, nil, c.Name); len(built.Nodes) > 0 || why != want {
				t.Errorf("Build(%+v, %q) = %+v (%d), want none (%d)", cols, c.Name, built, why, want)
			}
		}
	}
	for _, name := range []string{"", "k"} {
		if built, why := Build(nil, [][]api.Value{nil, {}}, name); len(built.Nodes) > 0 || why != api.ErrNone {
			t.Errorf("Build of no columns, %q = %+v (%d)", name, built, why)
		}
	}
}

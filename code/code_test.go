package code

import (
	"bytes"
	"math"
	"slices"
	"strings"
	"testing"

	"chirograph/api"
	"chirograph/numeral"
	"chirograph/sample"
	"chirograph/value"
)

// inverse of bytes: what they are where their column goes down.
func inverse(b []byte) []byte {
	var l []byte
	for _, c := range b {
		l = append(l, 255-c)
	}
	return l
}

// written: a value and its bytes, written out by hand.
type written struct {
	v api.Value
	b []byte
}

// rising values with their bytes, each ahead of all behind it.
func rising() []written {
	return []written{
		{sample.Null(), []byte{1}},
		{sample.Bool(0), []byte{2, 0}},
		{sample.Bool(1), []byte{2, 1}},
		{sample.Int(math.MinInt), []byte{3, 0, 0, 0, 0, 0, 0, 0, 0}},
		{sample.Int(math.MinInt + 1), []byte{3, 0, 0, 0, 0, 0, 0, 0, 1}},
		{sample.Int(-256), []byte{3, 127, 255, 255, 255, 255, 255, 255, 0}},
		{sample.Int(-1), []byte{3, 127, 255, 255, 255, 255, 255, 255, 255}},
		{sample.Int(0), []byte{3, 128, 0, 0, 0, 0, 0, 0, 0}},
		{sample.Int(1), []byte{3, 128, 0, 0, 0, 0, 0, 0, 1}},
		{sample.Int(0x102030405060708), []byte{3, 129, 2, 3, 4, 5, 6, 7, 8}},
		{sample.Int(math.MaxInt), []byte{3, 255, 255, 255, 255, 255, 255, 255, 255}},
		{sample.Bits(0xfff0000000000000), []byte{4, 0, 15, 255, 255, 255, 255, 255, 255}},
		{sample.Real(-math.MaxFloat64), []byte{4, 0, 16, 0, 0, 0, 0, 0, 0}},
		{sample.Real(-2), []byte{4, 63, 255, 255, 255, 255, 255, 255, 255}},
		{sample.Real(-1), []byte{4, 64, 15, 255, 255, 255, 255, 255, 255}},
		{sample.Bits(1<<63 | 1), []byte{4, 127, 255, 255, 255, 255, 255, 255, 254}},
		{sample.Real(0), []byte{4, 128, 0, 0, 0, 0, 0, 0, 0}},
		{sample.Bits(1), []byte{4, 128, 0, 0, 0, 0, 0, 0, 1}},
		{sample.Real(1), []byte{4, 191, 240, 0, 0, 0, 0, 0, 0}},
		{sample.Bits(0x4008102030405060), []byte{4, 192, 8, 16, 32, 48, 64, 80, 96}},
		{sample.Bits(0x7ff0000000000000), []byte{4, 255, 240, 0, 0, 0, 0, 0, 0}},
		{sample.Text(""), []byte{5, 0, 1}},
		{sample.Text("\x00"), []byte{5, 0, 255, 0, 1}},
		{sample.Text("\x00\x00"), []byte{5, 0, 255, 0, 255, 0, 1}},
		{sample.Text("\x00\x01"), []byte{5, 0, 255, 1, 0, 1}},
		{sample.Text("\x00a"), []byte{5, 0, 255, 97, 0, 1}},
		{sample.Text("\x01"), []byte{5, 1, 0, 1}},
		{sample.Text("a"), []byte{5, 97, 0, 1}},
		{sample.Text("a\x00"), []byte{5, 97, 0, 255, 0, 1}},
		{sample.Text("a\x00b"), []byte{5, 97, 0, 255, 98, 0, 1}},
		{sample.Text("a\x01"), []byte{5, 97, 1, 0, 1}},
		{sample.Text("ab"), []byte{5, 97, 98, 0, 1}},
		{sample.Text("b"), []byte{5, 98, 0, 1}},
		{sample.Text(sample.Long(api.MaxText)), append(append([]byte{5}, sample.Long(api.MaxText)...), 0, 1)},
		{sample.Text("\u00e9"), []byte{5, 195, 169, 0, 1}},
		{sample.Text("\U0010ffff"), []byte{5, 244, 143, 191, 191, 0, 1}},
	}
}

// encoded is a row's bytes, which must be told.
func encoded(t *testing.T, row []api.Value, down int) []byte {
	t.Helper()
	b, e := Encode(row, down)
	if e != api.OK {
		t.Fatalf("Encode(%+v, %d) = %d, want 0", row, down, e)
	}
	return b
}

// mustRefuse bytes, and tell nothing else.
func mustRefuse(t *testing.T, b []byte, n, down int, want api.Errno) {
	t.Helper()
	if row, e := Decode(b, n, down); e != want || len(row) != 0 {
		t.Errorf("Decode(%v, %d, %d) = %+v %d, want none %d", b, n, down, row, e, want)
	}
}

// bothWays tells a value's bytes in a column that does not go down, and the same bytes in one that does.
func bothWays(b []byte) map[int][]byte {
	return map[int][]byte{0: b, 1: inverse(b)}
}

// TestBytesOfAValue: P2.2, and back by P2.3, up and down.
func TestBytesOfAValue(t *testing.T) {
	for _, w := range rising() {
		for down, want := range bothWays(w.b) {
			if b := encoded(t, []api.Value{w.v}, down); !bytes.Equal(b, want) {
				t.Errorf("Encode(%+v, %d) = %v, want %v", w.v, down, b, want)
			}
			row, e := Decode(want, 1, down)
			if e != api.OK || len(row) != 1 || row[0] != w.v {
				t.Errorf("Decode(%v, 1, %d) = %+v %d, want %+v 0", want, down, row, e, w.v)
			}
		}
	}
}

// TestColumns: P2.1, values stand one behind the other, and each bit of down is for a column of its own.
func TestColumns(t *testing.T) {
	all := rising()
	row := []written{all[22], all[5], all[0], all[2], all[14]}
	for n := 0; n <= api.MaxCols; n++ {
		for down := range 1 << api.MaxCols {
			var values []api.Value
			var want []byte
			for i, w := range row[:n] {
				values = append(values, w.v)
				if down>>i&1 == 0 {
					want = append(want, w.b...)
				} else {
					want = append(want, inverse(w.b)...)
				}
			}
			if b := encoded(t, values, down); !bytes.Equal(b, want) {
				t.Errorf("Encode(%+v, %d) = %v, want %v", values, down, b, want)
			}
			back, e := Decode(want, n, down)
			if e != api.OK || !slices.Equal(back, values) {
				t.Errorf("Decode(%v, %d, %d) = %+v %d, want %+v 0", want, n, down, back, e, values)
			}
		}
	}
}

// TestBitsBeyondTheRow: P2.1, they say nothing; a number below 0 is 64 bits.
func TestBitsBeyondTheRow(t *testing.T) {
	row := []api.Value{sample.Int(7), sample.Text("a\x00"), sample.Null()}
	for _, c := range []struct{ down, same int }{
		{8, 0}, {1 << 5, 0}, {1<<40 | 2, 2}, {math.MinInt, 0}, {math.MinInt + 5, 5}, {-1, 7}, {-2, 6}, {-8, 0}, {-3, 5}, {math.MaxInt, 7},
	} {
		want := encoded(t, row, c.same)
		if b := encoded(t, row, c.down); !bytes.Equal(b, want) {
			t.Errorf("Encode(%d) = %v, want %v", c.down, b, want)
		}
		if back, e := Decode(want, len(row), c.down); e != api.OK || !slices.Equal(back, row) {
			t.Errorf("Decode(%v, %d) = %+v %d, want %+v 0", want, c.down, back, e, row)
		}
	}
}

// TestEncodeRefuses: P2.1, what value's Check refuses, in each place of a row.
func TestEncodeRefuses(t *testing.T) {
	for _, c := range []struct {
		v    api.Value
		want api.Errno
	}{
		{api.Value{Kind: -1}, api.ErrKind}, {api.Value{Kind: 5}, api.ErrKind}, {api.Value{Kind: math.MaxInt}, api.ErrKind},
		{sample.Text(sample.Long(api.MaxText + 1)), api.ErrSize}, {api.Value{Text: sample.Long(api.MaxText + 1)}, api.ErrSize},
		{sample.Bool(2), api.ErrForm}, {sample.Bool(-1), api.ErrForm}, {sample.Bool(257), api.ErrForm}, {sample.Bits(1 << 63), api.ErrForm},
		{sample.Real(math.NaN()), api.ErrForm}, {sample.Text("\xff"), api.ErrForm}, {api.Value{Int: 1}, api.ErrForm},
	} {
		for n := 1; n <= api.MaxCols; n++ {
			for i := range n {
				row := slices.Repeat([]api.Value{sample.Int(3)}, n)
				row[i] = c.v
				for _, down := range []int{0, -1} {
					if b, e := Encode(row, down); e != c.want || len(b) != 0 {
						t.Errorf("Encode(%+v, %d) = %v %d, want none %d", row, down, b, e, c.want)
					}
				}
			}
		}
	}
}

// TestEncodeOrderOfErrors: P2.1, too many values ahead of what they are; of two wrong ones the first one.
func TestEncodeOrderOfErrors(t *testing.T) {
	noKind, tooLong, noForm := api.Value{Kind: 9}, sample.Text(sample.Long(api.MaxText+1)), sample.Bool(2)
	for _, c := range []struct {
		row  []api.Value
		want api.Errno
	}{
		{make([]api.Value, api.MaxCols+1), api.ErrSize},
		{make([]api.Value, 1000), api.ErrSize},
		{slices.Repeat([]api.Value{noKind}, api.MaxCols+1), api.ErrSize},
		{slices.Repeat([]api.Value{noKind}, api.MaxCols), api.ErrKind},
		{[]api.Value{noForm, noKind, tooLong}, api.ErrForm},
		{[]api.Value{sample.Null(), noKind, tooLong, noForm}, api.ErrKind},
		{[]api.Value{sample.Null(), sample.Null(), tooLong, noForm, noKind}, api.ErrSize},
	} {
		if b, e := Encode(c.row, 0); e != c.want || len(b) != 0 {
			t.Errorf("Encode(%+v) = %v %d, want none %d", c.row, b, e, c.want)
		}
	}
}

// TestBytesStandAsRows: what comes of P2.1 and P2.2, for each of many rows of two columns against each, up and down.
func TestBytesStandAsRows(t *testing.T) {
	values := rising()
	var rows [][2]int
	for i := range values {
		for j := i % 3; j < len(values); j += 3 {
			rows = append(rows, [2]int{i, j})
		}
	}
	for down := range 4 {
		var all [][]byte
		for _, r := range rows {
			all = append(all, encoded(t, []api.Value{values[r[0]].v, values[r[1]].v}, down))
		}
		for i, r := range rows {
			for j, s := range rows {
				want := slices.Compare([]int{directed(r[0], down), directed(r[1], down>>1)}, []int{directed(s[0], down), directed(s[1], down>>1)})
				if got := bytes.Compare(all[i], all[j]); got != want {
					t.Fatalf("down %d: %v against %v: %d, want %d", down, all[i], all[j], got, want)
				}
				if i != j && bytes.HasPrefix(all[i], all[j]) {
					t.Fatalf("down %d: %v begins with %v", down, all[i], all[j])
				}
			}
		}
	}
}

// directed is a place among rising values, the other way round in a column that goes down.
func directed(place, down int) int {
	if down&1 == 1 {
		return -place
	}
	return place
}

// TestRisingAsValuesSay: the list on which TestBytesStandAsRows leans rises as value tells it (P1.2).
func TestRisingAsValuesSay(t *testing.T) {
	l := rising()
	for i := 1; i < len(l); i++ {
		if n, e := value.Compare(l[i-1].v, l[i].v); n != -1 || e != api.OK {
			t.Errorf("Compare(%+v, %+v) = %d %d", l[i-1].v, l[i].v, n, e)
		}
	}
}

// TestDecodeCounts: P2.3, an n that no row has is refused ahead of all else.
func TestDecodeCounts(t *testing.T) {
	for _, n := range []int{-1, api.MaxCols + 1, math.MinInt, math.MaxInt} {
		for _, b := range [][]byte{nil, {1}, {0}, {3, 1}, {1, 1, 1, 1, 1, 1}} {
			mustRefuse(t, b, n, 0, api.ErrSize)
		}
	}
	if row, e := Decode([]byte{1, 1, 1, 1, 1}, api.MaxCols, 0); e != api.OK || len(row) != api.MaxCols {
		t.Errorf("Decode of five nulls = %+v %d", row, e)
	}
	if row, e := Decode(nil, 0, -1); e != api.OK || len(row) != 0 {
		t.Errorf("Decode of nothing = %+v %d", row, e)
	}
}

// TestDecodeEnds: P2.3, bytes that end too early, or too late.
func TestDecodeEnds(t *testing.T) {
	for _, w := range rising() {
		for _, down := range []int{0, 1, 2, 3} {
			b := encoded(t, []api.Value{w.v, w.v}, down)
			for n := range len(b) {
				mustRefuse(t, b[:n], 2, down, api.ErrShort)
			}
			mustRefuse(t, b, 1, down, api.ErrForm)
			mustRefuse(t, b, 0, down, api.ErrForm)
			mustRefuse(t, b, 3, down, api.ErrShort)
			for _, more := range []byte{0, 1, 255} {
				mustRefuse(t, append(slices.Clone(b), more), 2, down, api.ErrForm)
			}
		}
	}
}

// TestDecodeKinds: P2.3, each first byte that there is.
func TestDecodeKinds(t *testing.T) {
	for c := range 256 {
		want := api.ErrForm
		if c >= 1 && c <= 5 {
			want = api.ErrShort
		}
		for down, b := range bothWays([]byte{byte(c)}) {
			if c != 1 {
				mustRefuse(t, b, 1, down, want)
			}
			if want == api.ErrForm {
				mustRefuse(t, append(slices.Clone(b), encoded(t, []api.Value{sample.Int(1), sample.Null()}, -down)...), 3, -down, want)
			}
		}
	}
}

// TestDecodeMarks: P2.3, each byte that there is behind a byte 0 of a text.
func TestDecodeMarks(t *testing.T) {
	for c := range 256 {
		for down, b := range bothWays([]byte{5, 97, 0, byte(c)}) {
			switch c {
			case 1:
				if row, e := Decode(b, 1, down); e != api.OK || len(row) != 1 || row[0] != sample.Text("a") {
					t.Errorf("Decode(%v, 1, %d) = %+v %d", b, down, row, e)
				}
			case 255:
				mustRefuse(t, b, 1, down, api.ErrShort)
			default:
				mustRefuse(t, b, 1, down, api.ErrForm)
			}
		}
	}
}

// TestDecodeLongTexts: P2.3, a byte too many is told as soon as it is there, and not ahead of that.
func TestDecodeLongTexts(t *testing.T) {
	full := "\x05" + sample.Long(api.MaxText)
	noughts := "\x05" + strings.Repeat("\x00\xff", api.MaxText)
	for _, c := range []struct {
		b    string
		want api.Errno
	}{
		{full + "\x00\x01", api.OK}, {noughts + "\x00\x01", api.OK},
		{full, api.ErrShort}, {full + "\x00", api.ErrShort}, {noughts, api.ErrShort}, {noughts + "\x00", api.ErrShort},
		{full + "\x00\x07", api.ErrForm}, {full + "\x00\x00", api.ErrForm}, {noughts + "\x00\x02", api.ErrForm},
		{full + "\x00\xff", api.ErrSize}, {noughts + "\x00\xff", api.ErrSize},
		{full + "y", api.ErrSize}, {full + "y\x00\x01", api.ErrSize}, {full + "y\x00\x07", api.ErrSize}, {noughts + "\x01", api.ErrSize},
		{full + "\x00\xff\x00\x01", api.ErrSize}, {full + "\xff", api.ErrSize}, {full + "\x01\x00\x01", api.ErrSize},
		{"\x05" + sample.Long(api.MaxText*20), api.ErrSize}, {"\x05" + strings.Repeat("\xff", api.MaxText+1), api.ErrSize},
		{"\x05" + strings.Repeat("\xff", api.MaxText), api.ErrShort}, {"\x05" + strings.Repeat("\xff", api.MaxText) + "\x00\x01", api.ErrForm},
		{"\x05\xff\x00\x07" + sample.Long(api.MaxText), api.ErrForm},
	} {
		for down, b := range bothWays([]byte(c.b)) {
			row, e := Decode(b, 1, down)
			if e != c.want || len(row) != 0 && e != api.OK {
				t.Errorf("Decode(%q, 1, %d) = %+v %d, want %d", c.b, down, row, e, c.want)
			}
		}
	}
}

// TestDecodeWhatMayNotBe: P2.3, only once all bytes of a value are there.
func TestDecodeWhatMayNotBe(t *testing.T) {
	var wrong [][]byte
	for c := 2; c < 256; c++ {
		wrong = append(wrong, []byte{2, byte(c)})
	}
	for _, b := range []uint64{1 << 63, 0x7ff8000000000000, 0x7ff0000000000001, 0x7fffffffffffffff, 0xfff8000000000000, 0xfff0000000000001, math.MaxUint64} {
		wrong = append(wrong, numeral.Append([]byte{4}, rankOfReal(b), 8))
	}
	for _, s := range []string{"\xff", "a\xc3", "\x80", "\xc0\x80", "\xed\xa0\x80", "\xf4\x90\x80\x80", "\xc3\x00\xff\xa9"} {
		wrong = append(wrong, append([]byte("\x05"+s), 0, 1))
	}
	for _, w := range wrong {
		for down, b := range bothWays(w) {
			mustRefuse(t, b, 1, down, api.ErrForm)
			mustRefuse(t, b, 2, down, api.ErrForm)
			mustRefuse(t, append(slices.Clone(b), 1), 1, down, api.ErrForm)
			for n := range len(b) {
				mustRefuse(t, b[:n], 1, down, api.ErrShort)
			}
		}
	}
}

// TestDecodeOrderOfErrors: P2.3, value by value.
func TestDecodeOrderOfErrors(t *testing.T) {
	tooLong := append([]byte{5}, sample.Long(api.MaxText+1)...)
	for _, c := range []struct {
		first, rest []byte
		want        api.Errno
	}{
		{[]byte{2, 2}, tooLong, api.ErrForm},
		{[]byte{1}, tooLong, api.ErrSize},
		{tooLong, []byte{0, 1, 2, 2}, api.ErrSize},
		{[]byte{5, 255, 0, 1}, []byte{5, 0}, api.ErrForm},
		{[]byte{2, 1}, []byte{5, 0}, api.ErrShort},
		{[]byte{2, 1}, nil, api.ErrShort},
		{[]byte{2, 1}, []byte{6}, api.ErrForm},
		{[]byte{2, 1}, []byte{1, 1}, api.ErrForm},
		{[]byte{2, 1}, []byte{4, 0}, api.ErrShort},
	} {
		mustRefuse(t, slices.Concat(c.first, c.rest), 2, 0, c.want)
		mustRefuse(t, slices.Concat(c.first, inverse(c.rest)), 2, 2, c.want)
	}
}

// TestOnlyOneWay: P2.3, what is read as a row are just the bytes that P2.1 writes for it; none panics.
func TestOnlyOneWay(t *testing.T) {
	some := []byte{0, 1, 2, 3, 4, 5, 6, 97, 127, 128, 195, 169, 249, 250, 251, 252, 253, 254, 255}
	lists := [][]byte{nil}
	for from := 0; len(lists[from]) < 4; from++ {
		for _, c := range some {
			lists = append(lists, append(slices.Clone(lists[from]), c))
		}
	}
	for _, b := range lists {
		for n := range 4 {
			for _, down := range []int{0, 1, 2, 7} {
				row, e := Decode(b, n, down)
				if e != api.OK {
					continue
				}
				if len(row) != n {
					t.Fatalf("Decode(%v, %d, %d) = %+v", b, n, down, row)
				}
				if again := encoded(t, row, down); !bytes.Equal(again, b) {
					t.Fatalf("Decode(%v, %d, %d) = %+v, whose bytes are %v", b, n, down, row, again)
				}
			}
		}
	}
}

// TestListsStayApart: what is handed in stays as it is, and answers share no memory, spare room neither.
func TestListsStayApart(t *testing.T) {
	room := []api.Value{sample.Text("a\x00"), sample.Int(4), sample.Real(2), sample.Bool(1), sample.Null()}
	before := slices.Clone(room)
	one, two := encoded(t, room[:3], -1), encoded(t, room[:3], -1)
	kept := slices.Clone(two)
	sample.Spoil(one)
	if !bytes.Equal(two, kept) || !slices.Equal(room, before) {
		t.Errorf("an answer of Encode shares its bytes, or the row was changed: %v %+v", two, room)
	}
	bytesIn := append(slices.Clone(kept), 1, 2, 3)
	bytesBefore := slices.Clone(bytesIn)
	n := len(kept)
	rowOne, _ := Decode(bytesIn[:n], 3, -1)
	rowTwo, _ := Decode(bytesIn[:n], 3, -1)
	if !bytes.Equal(bytesIn, bytesBefore) {
		t.Errorf("Decode changed its bytes: %v", bytesIn)
	}
	sample.Spoil(bytesIn)
	for i := range rowOne[:cap(rowOne)] {
		rowOne[:cap(rowOne)][i] = sample.Text("spoilt")
	}
	if !slices.Equal(rowTwo, before[:3]) {
		t.Errorf("an answer of Decode shares its values: %+v", rowTwo)
	}
}

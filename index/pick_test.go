package index

import (
	"cmp"
	"math/rand"
	"slices"
	"strings"
	"testing"

	"chirograph/api"
	"chirograph/sample"
	"chirograph/tree"
)

// treeOf pairs, one by one.
func treeOf(t *testing.T, l []api.Pair) api.Tree {
	t.Helper()
	grown, why := api.Tree{}, api.OK
	for _, p := range l {
		if grown, why = tree.Put(grown, p.Key, p.Val); why != api.OK {
			t.Fatal(p, why)
		}
	}
	return grown
}

// mustPick just these of a tree.
func mustPick(t *testing.T, from api.Tree, lo, hi int, want []int) {
	t.Helper()
	if l, why := Pick(from, api.Range{Lo: lo, Hi: hi}); !slices.Equal(l, want) || why != api.OK {
		t.Errorf("Pick(%+v, %d to %d) = %d (%d), want %d", from, lo, hi, l, why, want)
	}
}

// TestPicked: P16.2, of rows as they are told; those with the same number by their places, nulls never.
func TestPicked(t *testing.T) {
	var rows [][]api.Value
	for _, v := range []api.Value{sample.Int(5), sample.Null(), sample.Int(-2), sample.Int(5), sample.Int(highest), sample.Null(), sample.Int(300), sample.Int(lowest), sample.Int(-2), sample.Int(0)} {
		rows = append(rows, sample.Row(v))
	}
	built := mustBuild(t, []api.Column{sample.Column("k", api.Int)}, rows, "k", pairsOf(rows, 0))
	for _, c := range []struct {
		lo, hi int
		want   []int
	}{
		{lowest, highest, []int{7, 2, 8, 9, 0, 3, 6, 4}}, {lowest + 1, highest - 1, []int{2, 8, 9, 0, 3, 6}}, {lowest, lowest, []int{7}}, {highest, highest, []int{4}}, {lowest, -3, []int{7}}, {-3, -3, nil}, {-2, -2, []int{2, 8}}, {-2, -1, []int{2, 8}},
		{-1, -1, nil}, {-1, 0, []int{9}}, {0, 0, []int{9}}, {0, 5, []int{9, 0, 3}}, {1, 4, nil}, {1, 5, []int{0, 3}}, {5, 5, []int{0, 3}}, {5, 299, []int{0, 3}}, {5, 300, []int{0, 3, 6}}, {6, 300, []int{6}}, {301, highest - 1, nil}, {301, highest, []int{4}},
		{1, 0, nil}, {0, -1, nil}, {5, 4, nil}, {300, 5, nil}, {5, -2, nil}, {highest, lowest, nil}, {highest, highest - 1, nil}, {lowest + 1, lowest, nil}, {0, lowest, nil}, {highest, 0, nil},
	} {
		mustPick(t, built, c.lo, c.hi, c.want)
		mustPick(t, api.Tree{}, c.lo, c.hi, nil)
	}
}

// TestOddKeys: P16.2, both ends are within, whichever other keys stand beside them; what a key has is any number.
func TestOddKeys(t *testing.T) {
	low, high := keyOf(sample.Int(-7), 0), keyOf(sample.Int(900), 65535)
	number := low[:len(low)-2]
	inside := []api.Pair{
		{Key: low, Val: lowest}, {Key: low + "\x00", Val: -1}, {Key: low[:len(low)-1] + "\x01", Val: 77}, {Key: number + "\xff\xff", Val: 65}, {Key: number + "\xff\xff\xff", Val: 77},
		{Key: keyOf(sample.Int(0), 300), Val: 0}, {Key: "\x03\x80", Val: 9}, {Key: "\x03\x80" + strings.Repeat("\x00", api.MaxKey-2), Val: highest}, {Key: keyOf(sample.Int(900), 0)[:9], Val: 4}, {Key: keyOf(sample.Int(900), 0), Val: 3}, {Key: high[:10], Val: 2}, {Key: high, Val: 1},
	}
	outside := []api.Pair{
		{Key: "", Val: 1}, {Key: "\x01\x00\x00", Val: 2}, {Key: "\x02\xff", Val: 3}, {Key: "\x03", Val: 4}, {Key: number, Val: 5}, {Key: low[:len(low)-1], Val: 6}, {Key: keyOf(sample.Int(-8), 65535), Val: 7}, {Key: keyOf(sample.Int(-8), 65535) + "\xff", Val: 8},
		{Key: high + "\x00", Val: 9}, {Key: keyOf(sample.Int(901), 0)[:9], Val: 10}, {Key: keyOf(sample.Int(901), 0), Val: 11}, {Key: "\x04", Val: 12}, {Key: "\xff", Val: 13}, {Key: strings.Repeat("\xff", api.MaxKey), Val: 14},
	}
	slices.SortFunc(inside, func(a, b api.Pair) int { return strings.Compare(a.Key, b.Key) })
	var want []int
	for _, p := range inside {
		want = append(want, p.Val)
	}
	mustPick(t, treeOf(t, inside), -7, 900, want)
	mustPick(t, treeOf(t, outside), -7, 900, nil)
	mustPick(t, treeOf(t, slices.Concat(outside, inside)), -7, 900, want)
	for _, odd := range sample.Trees() { // none of their keys begins as those of numbers do
		mustPick(t, odd, lowest, highest, nil)
	}
}

// second way of saying what P16.2 does, of a tree that rows were built to: row by row.
func second(rows [][]api.Value, at int, r api.Range) []int {
	var l []int
	for i, row := range rows {
		if v := row[at]; v != sample.Null() && v.Int >= r.Lo && v.Int <= r.Hi {
			l = append(l, i)
		}
	}
	slices.SortStableFunc(l, func(i, j int) int { return cmp.Compare(rows[i][at].Int, rows[j][at].Int) })
	return l
}

// TestManyRanges: P16.2, of rows and ranges by chance, against the second way; of the same tree under other nodes the same is picked.
func TestManyRanges(t *testing.T) {
	chance := rand.New(rand.NewSource(61))
	some := 0
	for range 400 {
		near := func() api.Range {
			ends := []int{lowest, lowest + 1, -257, -1, 0, 1, 255, 256, highest - 1, highest}
			return api.Range{Lo: ends[chance.Intn(len(ends))], Hi: ends[chance.Intn(len(ends))]}
		}
		i, x := near(), near()
		rows := sample.RowsNear(chance.Intn, chance.Intn(30), i, x)
		pairs := pairsOf(rows, sample.PlaceOfI)
		built := mustBuild(t, sample.Columns(), rows, "i", pairs)
		chance.Shuffle(len(pairs), func(i, j int) { pairs[i], pairs[j] = pairs[j], pairs[i] })
		other := treeOf(t, pairs)
		for _, r := range []api.Range{i, x, near(), near(), {Lo: 1, Hi: 0}, {Lo: lowest, Hi: highest}, {Lo: i.Lo, Hi: i.Lo}, {Lo: i.Hi, Hi: i.Hi}} {
			want := second(rows, sample.PlaceOfI, r)
			mustPick(t, built, r.Lo, r.Hi, want)
			mustPick(t, other, r.Lo, r.Hi, want)
			if n := len(want); n > 0 && n < len(rows) {
				some++
			}
		}
	}
	if some < 1000 {
		t.Errorf("of ranges that leave some rows there were %d", some)
	}
}

// TestPickRefuses: P16.2, a tree that may not be, whatever the range is.
func TestPickRefuses(t *testing.T) {
	for want, trees := range sample.WrongTrees() {
		for _, wrong := range trees {
			for _, r := range []api.Range{{}, {Lo: 1, Hi: 0}, {Lo: lowest, Hi: highest}, {Lo: highest, Hi: lowest}, {Lo: 5, Hi: 5}} {
				if l, why := Pick(wrong, r); len(l) > 0 || why != want {
					t.Errorf("Pick(%+v, %+v) = %d (%d), want none (%d)", wrong, r, l, why, want)
				}
			}
		}
	}
}

package slots

import (
	"bytes"
	"crypto/sha256"
	"encoding/binary"
	"math"
	"slices"
	"testing"

	"chirograph/api"
	"chirograph/sample"
)

// numbers of slots that a tree may have.
var numbers = []int{1, 2, 4, 8, 16, 32, 64}

// digest by the library's own sum, of a frame that is made here.
func digest(mode, tag int, parts ...[]byte) []byte {
	b := []byte{byte(tag), byte(len(parts))}
	for _, p := range parts {
		b = binary.BigEndian.AppendUint32(b, uint32(len(p)))
		b = append(b, p...)
	}
	if mode == api.Hashed {
		h := sha256.Sum256(b)
		return h[:]
	}
	return b
}

// leafOf a slot, as P5.1 says.
func leafOf(mode int, s api.Slot) []byte {
	full := byte(0)
	if s.Full {
		full = 1
	}
	return digest(mode, 1, s.Salt, slices.Concat([]byte{full}, s.Data))
}

// rootOf slots, as P5.2 says.
func rootOf(mode int, l []api.Slot) []byte {
	if len(l) == 1 {
		return leafOf(mode, l[0])
	}
	half := len(l) / 2
	return digest(mode, 2, rootOf(mode, l[:half]), rootOf(mode, l[half:]))
}

// pathOf a slot, as P5.3 says.
func pathOf(mode int, l []api.Slot, i int) [][]byte {
	half := len(l) / 2
	switch {
	case half == 0:
		return nil
	case i < half:
		return append(pathOf(mode, l[:half], i), rootOf(mode, l[half:]))
	default:
		return append(pathOf(mode, l[half:], i-half), rootOf(mode, l[:half]))
	}
}

// coverOf slots, as P5.5 says: a part without an open slot is a largest one, if it is all, or the part that it is a half of has an open one.
func coverOf(mode int, l []api.Slot, open []bool) api.Cover {
	var c api.Cover
	for at := 0; at < len(l); at++ {
		if open[at] {
			c.Open = append(c.Open, l[at])
		}
		for size := 1; size <= len(l); size *= 2 {
			whole := at - at%(2*size)
			if at%size == 0 && !slices.Contains(open[at:at+size], true) && (size == len(l) || slices.Contains(open[whole:whole+2*size], true)) {
				c.Rest = append(c.Rest, rootOf(mode, l[at:at+size]))
			}
		}
	}
	return c
}

// someSlots are n slots, no two of them alike: full ones and empty ones, with and without salt and data, short and as long as may be.
func someSlots(n int) []api.Slot {
	l := make([]api.Slot, n)
	for i := range l {
		switch i % 4 {
		case 0:
			l[i] = api.Slot{Full: true, Salt: sample.Bytes(i), Data: sample.Bytes(400 - i)}
		case 1:
			l[i] = api.Slot{Salt: sample.Bytes(80 - i)}
		case 2:
			l[i] = api.Slot{Full: true, Salt: sample.Bytes(i)}
		case 3:
			l[i] = api.Slot{Full: true, Salt: sample.Bytes(80), Data: sample.Bytes(i)}
		}
	}
	return l
}

// wrongSlots that Leaf refuses, and how.
func wrongSlots() map[api.Errno][]api.Slot {
	return map[api.Errno][]api.Slot{
		api.ErrForm: {
			{Data: []byte{0}}, {Data: sample.Bytes(400)}, {Data: sample.Bytes(401)},
			{Salt: sample.Bytes(80), Data: []byte{1}}, {Salt: sample.Bytes(81), Data: []byte{1}}, {Salt: sample.Bytes(81), Data: sample.Bytes(401)},
		},
		api.ErrSize: {
			{Salt: sample.Bytes(81)}, {Salt: sample.Bytes(1000)}, {Salt: sample.Bytes(81), Data: []byte{}},
			{Full: true, Salt: sample.Bytes(81)}, {Full: true, Salt: sample.Bytes(81), Data: sample.Bytes(400)},
			{Full: true, Data: sample.Bytes(401)}, {Full: true, Salt: sample.Bytes(80), Data: sample.Bytes(401)}, {Full: true, Data: sample.Bytes(1 << 20)},
			{Full: true, Salt: sample.Bytes(336), Data: sample.Bytes(656)},
		},
	}
}

// wrongNumbers of slots that no tree has, as far as lists of so many are made here.
func wrongNumbers() []int {
	l := []int{0, 255, 256, 257, 1 << 12, 1 << 16}
	for n := range 130 {
		if !slices.Contains(numbers, n) {
			l = append(l, n)
		}
	}
	return l
}

func sameSlots(a, b []api.Slot) bool {
	return slices.EqualFunc(a, b, func(a, b api.Slot) bool {
		return a.Full == b.Full && bytes.Equal(a.Salt, b.Salt) && bytes.Equal(a.Data, b.Data)
	})
}

func sameCovers(a, b api.Cover) bool {
	return sameSlots(a.Open, b.Open) && sample.SameParts(a.Rest, b.Rest)
}

// mustNotLeaf a slot.
func mustNotLeaf(t *testing.T, mode int, s api.Slot, want api.Errno) {
	t.Helper()
	if b, e := Leaf(mode, s); e != want || len(b) > 0 {
		t.Errorf("Leaf(%d, %v %d %d bytes) = %d bytes %d, want none %d", mode, s.Full, len(s.Salt), len(s.Data), len(b), e, want)
	}
}

// mustNotRoot slots, nor tell a path or a cover of them, whatever the place is and of whichever slots it is said that they are open.
func mustNotRoot(t *testing.T, mode int, l []api.Slot, want api.Errno) {
	t.Helper()
	if b, e := Root(mode, l); e != want || len(b) > 0 {
		t.Errorf("Root(%d, %d slots) = %d bytes %d, want none %d", mode, len(l), len(b), e, want)
	}
	for _, i := range append([]int{0, len(l) - 1}, sample.WrongPlaces(len(l))...) {
		mustNotPath(t, mode, l, i, want)
	}
	for _, n := range []int{len(l), 0, 1, len(l) + 1} {
		mustNotCover(t, mode, l, make([]bool, n), want)
	}
}

func mustNotPath(t *testing.T, mode int, l []api.Slot, i int, want api.Errno) {
	t.Helper()
	if p, e := Path(mode, l, i); e != want || len(p) > 0 {
		t.Errorf("Path(%d, %d slots, %d) = %d digests %d, want none %d", mode, len(l), i, len(p), e, want)
	}
}

func mustNotCover(t *testing.T, mode int, l []api.Slot, open []bool, want api.Errno) {
	t.Helper()
	if c, e := CoverOf(mode, l, open); e != want || len(c.Open) > 0 || len(c.Rest) > 0 {
		t.Errorf("CoverOf(%d, %d slots, %v) = %d slots, %d digests, %d, want none %d", mode, len(l), open, len(c.Open), len(c.Rest), e, want)
	}
}

func mustNotRooted(t *testing.T, mode int, open []bool, c api.Cover, want api.Errno) {
	t.Helper()
	if b, e := Rooted(mode, open, c); e != want || len(b) > 0 {
		t.Errorf("Rooted(%d, %v, %d slots, %d digests) = %d bytes %d, want none %d", mode, open, len(c.Open), len(c.Rest), len(b), e, want)
	}
}

// TestLeavesWritten: P5.1, open leaves, written out by hand, and hashed ones of them.
func TestLeavesWritten(t *testing.T) {
	for _, c := range []struct {
		s    api.Slot
		want []byte
	}{
		{api.Slot{}, []byte{1, 2, 0, 0, 0, 0, 0, 0, 0, 1, 0}},
		{api.Slot{Full: true}, []byte{1, 2, 0, 0, 0, 0, 0, 0, 0, 1, 1}},
		{api.Slot{Salt: []byte{}, Data: []byte{}}, []byte{1, 2, 0, 0, 0, 0, 0, 0, 0, 1, 0}},
		{api.Slot{Salt: []byte{7, 8}}, []byte{1, 2, 0, 0, 0, 2, 7, 8, 0, 0, 0, 1, 0}},
		{api.Slot{Full: true, Data: []byte{7, 8}}, []byte{1, 2, 0, 0, 0, 0, 0, 0, 0, 3, 1, 7, 8}},
		{api.Slot{Full: true, Salt: []byte("s"), Data: []byte("d")}, []byte{1, 2, 0, 0, 0, 1, 115, 0, 0, 0, 2, 1, 100}},
		{api.Slot{Full: true, Salt: []byte{0}, Data: []byte{0, 0}}, []byte{1, 2, 0, 0, 0, 1, 0, 0, 0, 0, 3, 1, 0, 0}},
	} {
		if got, e := Leaf(api.Open, c.s); e != api.OK || !bytes.Equal(got, c.want) {
			t.Errorf("Leaf(2, %v) = %v %d, want %v 0", c.s, got, e, c.want)
		}
		want := sha256.Sum256(c.want)
		if got, e := Leaf(api.Hashed, c.s); e != api.OK || !bytes.Equal(got, want[:]) {
			t.Errorf("Leaf(1, %v) = %v %d, want %v 0", c.s, got, e, want)
		}
	}
}

// TestLeaves: P5.1, of slots with salts and data of all lengths that may be.
func TestLeaves(t *testing.T) {
	for _, mode := range sample.Modes() {
		for salt := range 81 {
			for data := range 401 {
				s := api.Slot{Full: true, Salt: sample.Bytes(salt), Data: sample.Bytes(data)}
				if got, e := Leaf(mode, s); e != api.OK || !bytes.Equal(got, leafOf(mode, s)) {
					t.Fatalf("Leaf(%d, full, %d, %d bytes) = %v %d", mode, salt, data, got, e)
				}
			}
			s := api.Slot{Salt: sample.Bytes(salt)}
			if got, e := Leaf(mode, s); e != api.OK || !bytes.Equal(got, leafOf(mode, s)) {
				t.Errorf("Leaf(%d, %d bytes) = %v %d", mode, salt, got, e)
			}
		}
	}
}

// TestLeafRefuses: P5.1, ErrKind, then ErrForm, then ErrSize.
func TestLeafRefuses(t *testing.T) {
	for want, l := range wrongSlots() {
		for _, s := range l {
			for _, mode := range sample.Modes() {
				mustNotLeaf(t, mode, s, want)
			}
			for _, mode := range sample.WrongModes() {
				mustNotLeaf(t, mode, s, api.ErrKind)
			}
		}
	}
	for _, mode := range sample.WrongModes() {
		for _, s := range someSlots(4) {
			mustNotLeaf(t, mode, s, api.ErrKind)
		}
	}
}

// TestRootsWritten: P5.2, the left half stands ahead of the right one, under TagNode.
func TestRootsWritten(t *testing.T) {
	l := []api.Slot{{Full: true}, {}, {Salt: []byte{5}}, {Full: true, Data: []byte{6}}}
	leaves := [][]byte{
		{1, 2, 0, 0, 0, 0, 0, 0, 0, 1, 1}, {1, 2, 0, 0, 0, 0, 0, 0, 0, 1, 0},
		{1, 2, 0, 0, 0, 1, 5, 0, 0, 0, 1, 0}, {1, 2, 0, 0, 0, 0, 0, 0, 0, 2, 1, 6},
	}
	left := slices.Concat([]byte{2, 2, 0, 0, 0, 11}, leaves[0], []byte{0, 0, 0, 11}, leaves[1])
	right := slices.Concat([]byte{2, 2, 0, 0, 0, 12}, leaves[2], []byte{0, 0, 0, 12}, leaves[3])
	for _, c := range []struct {
		l    []api.Slot
		want []byte
	}{
		{l[:1], leaves[0]}, {l[3:], leaves[3]}, {l[:2], left}, {l[2:], right},
		{l, slices.Concat([]byte{2, 2, 0, 0, 0, 32}, left, []byte{0, 0, 0, 34}, right)},
	} {
		if got, e := Root(api.Open, c.l); e != api.OK || !bytes.Equal(got, c.want) {
			t.Errorf("Root(2, %v) = %v %d, want %v 0", c.l, got, e, c.want)
		}
	}
}

// TestRoots: P5.2, of each number of slots, in both modes.
func TestRoots(t *testing.T) {
	for _, mode := range sample.Modes() {
		for _, n := range numbers {
			for _, l := range [][]api.Slot{someSlots(n), make([]api.Slot, n)} {
				if got, e := Root(mode, l); e != api.OK || !bytes.Equal(got, rootOf(mode, l)) {
					t.Errorf("Root(%d, %d slots) = %d bytes, %d", mode, n, len(got), e)
				}
			}
		}
	}
}

// TestRootNumbers: P5.2, ErrSize ahead of what Leaf refuses, and behind ErrKind; so do Path and CoverOf.
func TestRootNumbers(t *testing.T) {
	for _, n := range wrongNumbers() {
		l := make([]api.Slot, n)
		for _, mode := range sample.Modes() {
			mustNotRoot(t, mode, l, api.ErrSize)
		}
		mustNotRoot(t, 0, l, api.ErrKind)
		if n == 0 {
			continue
		}
		l[n-1] = api.Slot{Data: []byte{1}}
		l[0] = l[n-1]
		for _, mode := range sample.Modes() {
			mustNotRoot(t, mode, l, api.ErrSize)
		}
	}
	mustNotRoot(t, api.Open, nil, api.ErrSize)
}

// TestRootModes: P5.2, ErrKind ahead of all else; so do Path and CoverOf.
func TestRootModes(t *testing.T) {
	for _, mode := range sample.WrongModes() {
		for _, n := range []int{0, 1, 2, 3, 64, 65} {
			mustNotRoot(t, mode, someSlots(n), api.ErrKind)
			mustNotRoot(t, mode, slices.Repeat([]api.Slot{{Data: []byte{1}}}, n), api.ErrKind)
		}
	}
}

// TestRootWrongSlots: P5.2, a wrong slot is refused at each place, and the first one of two; so do Path and CoverOf.
func TestRootWrongSlots(t *testing.T) {
	for _, n := range []int{1, 2, 8, 64} {
		for i := range n {
			for want, wrong := range wrongSlots() {
				l := someSlots(n)
				l[i] = wrong[i%len(wrong)]
				mustNotRoot(t, api.Open, l, want)
				for other, behind := range wrongSlots() {
					if i+1 < n && other != want {
						l[n-1] = behind[0]
						mustNotRoot(t, api.Open, l, want)
					}
				}
			}
		}
	}
	for want, wrong := range wrongSlots() {
		for _, s := range wrong {
			mustNotRoot(t, api.Hashed, []api.Slot{{}, s}, want)
		}
	}
}

// TestPaths: P5.3, of each place, and P5.4, that they lead to the root.
func TestPaths(t *testing.T) {
	for _, mode := range sample.Modes() {
		for _, n := range numbers {
			l := someSlots(n)
			root := rootOf(mode, l)
			for i := range l {
				want := pathOf(mode, l, i)
				if got, e := Path(mode, l, i); e != api.OK || !sample.SameParts(got, want) {
					t.Errorf("Path(%d, %d slots, %d) = %d digests %d, want other ones", mode, n, i, len(got), e)
				}
				if e := CheckPath(mode, root, n, i, l[i], want); e != api.OK {
					t.Errorf("CheckPath(%d, the root, %d, %d, the slot, its path) = %d, want 0", mode, n, i, e)
				}
			}
		}
	}
}

// TestPathWritten: P5.3, of four slots: the other one of two first, then the root of the other two.
func TestPathWritten(t *testing.T) {
	l := someSlots(4)
	for i, want := range [][][]byte{
		{leafOf(api.Open, l[1]), rootOf(api.Open, l[2:])}, {leafOf(api.Open, l[0]), rootOf(api.Open, l[2:])},
		{leafOf(api.Open, l[3]), rootOf(api.Open, l[:2])}, {leafOf(api.Open, l[2]), rootOf(api.Open, l[:2])},
	} {
		if got, e := Path(api.Open, l, i); e != api.OK || !sample.SameParts(got, want) {
			t.Errorf("Path(2, 4 slots, %d) = %v %d, want %v 0", i, got, e, want)
		}
	}
}

// TestPathPlaces: P5.3, ErrRange; P5.4, too, ahead of what Leaf refuses.
func TestPathPlaces(t *testing.T) {
	for _, mode := range sample.Modes() {
		for _, n := range numbers {
			l := someSlots(n)
			for _, i := range sample.WrongPlaces(n) {
				mustNotPath(t, mode, l, i, api.ErrRange)
				for _, s := range []api.Slot{l[0], l[n-1], {Data: []byte{1}}, {Salt: sample.Bytes(81)}} {
					if e := CheckPath(mode, rootOf(mode, l), n, i, s, pathOf(mode, l, 0)); e != api.ErrRange {
						t.Errorf("CheckPath(%d, the root, %d, %d, a slot, a path) = %d, want 6", mode, n, i, e)
					}
				}
			}
		}
	}
}

// TestNothingElseProved: P5.4, what comes of it: of slots no two of which are alike each is proved at its place, by its path, in its tree alone.
func TestNothingElseProved(t *testing.T) {
	for _, mode := range sample.Modes() {
		for _, n := range []int{1, 2, 4, 8} {
			l := someSlots(16)
			root := rootOf(mode, l[:n])
			for i := range n {
				for j, s := range l {
					for k := range n {
						want := api.ErrProof
						if i == j && i == k {
							want = api.OK
						}
						if e := CheckPath(mode, root, n, i, s, pathOf(mode, l[:n], k)); e != want {
							t.Errorf("CheckPath(%d, the root, %d, %d, slot %d, path of %d) = %d, want %d", mode, n, i, j, k, e, want)
						}
					}
				}
			}
		}
	}
}

// TestCheckPathSlots: P5.4, a slot of which one thing is changed is not proved.
func TestCheckPathSlots(t *testing.T) {
	for _, mode := range sample.Modes() {
		l := []api.Slot{{Full: true, Salt: []byte{1, 2}, Data: []byte{3, 4}}, {Salt: []byte{1}}}
		for i, others := range [][]api.Slot{
			{{Full: true, Salt: []byte{1}, Data: []byte{2, 3, 4}}, {Full: true, Salt: []byte{1, 2}, Data: []byte{3}}, {Full: true, Salt: []byte{1, 2}}, {Salt: []byte{1, 2}}, {Full: true, Data: []byte{3, 4}}, {}},
			{{Full: true, Salt: []byte{1}}, {Salt: []byte{1, 0}}, {Salt: []byte{2}}, {}, {Full: true, Salt: []byte{1}, Data: []byte{0}}},
		} {
			for _, s := range others {
				if e := CheckPath(mode, rootOf(mode, l), 2, i, s, pathOf(mode, l, i)); e != api.ErrProof {
					t.Errorf("CheckPath(%d, the root of %v, 2, %d, %v, its path) = %d, want 10", mode, l, i, s, e)
				}
			}
		}
	}
}

// TestCheckPathDigests: P5.4, by one digest more or less, by other ones, in another order, or to another root nothing is proved.
func TestCheckPathDigests(t *testing.T) {
	for _, mode := range sample.Modes() {
		for _, n := range numbers {
			l := someSlots(n)
			root := rootOf(mode, l)
			for _, i := range []int{0, n / 2, n - 1} {
				path := pathOf(mode, l, i)
				for _, other := range sample.OtherPaths(path, root) {
					if e := CheckPath(mode, root, n, i, l[i], other); e != api.ErrProof {
						t.Errorf("CheckPath(%d, the root, %d, %d, the slot, another path of %d) = %d, want 10", mode, n, i, len(other), e)
					}
				}
				for _, other := range append(sample.OtherBytes(root), leafOf(mode, api.Slot{}), nil) {
					if e := CheckPath(mode, other, n, i, l[i], path); e != api.ErrProof {
						t.Errorf("CheckPath(%d, another root, %d, %d, the slot, its path) = %d, want 10", mode, n, i, e)
					}
				}
			}
		}
	}
}

// TestCheckPathNumbers: P5.4, of another number of slots nothing is proved; ErrSize, if there is no tree of so many, ahead of ErrRange.
func TestCheckPathNumbers(t *testing.T) {
	l := someSlots(8)
	root, path := rootOf(api.Open, l), pathOf(api.Open, l, 0)
	for _, n := range numbers {
		if e := CheckPath(api.Open, root, n, 0, l[0], path); n != 8 && e != api.ErrProof {
			t.Errorf("CheckPath(2, root of 8, %d, 0, the slot, its path) = %d, want 10", n, e)
		}
	}
	for _, n := range append(wrongNumbers(), -1, -2, -8, -64, 128, 1<<31, 1<<32, 1<<62, math.MaxInt, math.MinInt, math.MinInt+1) {
		for _, i := range []int{0, -1, n, 64, math.MaxInt, math.MinInt} {
			for _, s := range []api.Slot{l[0], {Data: []byte{1}}} {
				if e := CheckPath(api.Open, root, n, i, s, path); e != api.ErrSize {
					t.Errorf("CheckPath(2, root of 8, %d, %d, a slot, a path) = %d, want 1", n, i, e)
				}
			}
		}
	}
}

// TestCheckPathOrder: P5.4, ErrKind ahead of all, what Leaf refuses ahead of ErrProof.
func TestCheckPathOrder(t *testing.T) {
	for _, n := range []int{0, 1, 3, 8, 64, 128} {
		for _, i := range []int{-1, 0, 7, 64} {
			for _, mode := range sample.WrongModes() {
				for _, s := range []api.Slot{{}, {Data: []byte{1}}} {
					if e := CheckPath(mode, nil, n, i, s, nil); e != api.ErrKind {
						t.Errorf("CheckPath(%d, no root, %d, %d, a slot, no path) = %d, want 2", mode, n, i, e)
					}
				}
			}
		}
	}
	paths := [][][]byte{nil, {nil}, {{1}, {2}, {3}}, {{1}, make([]byte, api.MaxTerm), {3}}, make([][]byte, 9)}
	for want, l := range wrongSlots() {
		for _, s := range l {
			for _, mode := range sample.Modes() {
				for _, path := range paths {
					if e := CheckPath(mode, nil, 8, 5, s, path); e != want {
						t.Errorf("CheckPath(%d, no root, 8, 5, wrong, a path of %d) = %d, want %d", mode, len(path), e, want)
					}
				}
			}
		}
	}
}

// TestCheckPathNotMade: P5.4, ErrProof, if a digest on the way is too long to be made, whatever root is asked for.
func TestCheckPathNotMade(t *testing.T) {
	for _, mode := range sample.Modes() {
		leaf := leafOf(mode, api.Slot{})
		most := sample.Bytes(api.MaxTerm - 10 - len(leaf))
		for i, root := range [][]byte{digest(mode, 2, leaf, most), digest(mode, 2, most, leaf)} {
			if e := CheckPath(mode, root, 2, i, api.Slot{}, [][]byte{most}); e != api.OK {
				t.Errorf("CheckPath(%d, the root, 2, %d, a slot, the longest path) = %d, want 0", mode, i, e)
			}
		}
		long := append(most, 1)
		for _, path := range [][][]byte{{long}, {{1}, long}, {long, {1}}, {long, long}, {{1}, {2}, long}} {
			n := 1 << len(path)
			for _, i := range []int{0, n - 1} {
				for _, root := range [][]byte{nil, {}, leaf, digest(mode, 2, leaf, path[0]), digest(mode, 2, path[0], leaf), long, path[len(path)-1]} {
					if e := CheckPath(mode, root, n, i, api.Slot{}, path); e != api.ErrProof {
						t.Errorf("CheckPath(%d, %d bytes, %d, %d, a slot, too long a path of %d) = %d, want 10", mode, len(root), n, i, len(path), e)
					}
				}
			}
		}
	}
}

// openings of n slots: all there are of up to 8; of more, some: none, all, one by one, all but one, every other one, halves, quarters, and some without order.
func openings(n int) [][]bool {
	var l [][]bool
	add := func(is func(i int) bool) {
		open := make([]bool, n)
		for i := range open {
			open[i] = is(i)
		}
		l = append(l, open)
	}
	if n <= 8 {
		for mask := range 1 << n {
			add(func(i int) bool { return mask>>i&1 == 1 })
		}
		return l
	}
	add(func(int) bool { return false })
	add(func(int) bool { return true })
	for k := range n {
		add(func(i int) bool { return i == k })
		add(func(i int) bool { return i != k })
		add(func(i int) bool { return i < k })
	}
	for k := 1; k < n; k *= 2 {
		add(func(i int) bool { return i/k%2 == 0 })
		add(func(i int) bool { return i/k%2 == 1 })
	}
	seed := uint32(n)
	for range 20 {
		add(func(int) bool { seed = seed*1664525 + 1013904223; return seed>>30 == 0 })
	}
	return l
}

// TestCovers: P5.5, and P5.6, that they have the root of the slots.
func TestCovers(t *testing.T) {
	for _, mode := range sample.Modes() {
		for _, n := range numbers {
			l := someSlots(n)
			root := rootOf(mode, l)
			for _, open := range openings(n) {
				want := coverOf(mode, l, open)
				if got, e := CoverOf(mode, l, open); e != api.OK || !sameCovers(got, want) {
					t.Fatalf("CoverOf(%d, %d slots, %v) = %d slots, %d digests, %d, want %d, %d", mode, n, open, len(got.Open), len(got.Rest), e, len(want.Open), len(want.Rest))
				}
				if got, e := Rooted(mode, open, want); e != api.OK || !bytes.Equal(got, root) {
					t.Fatalf("Rooted(%d, %v, its cover) = %d bytes %d, want the root, 0", mode, open, len(got), e)
				}
			}
		}
	}
}

// TestCoversWritten: P5.5, the chapter's example, and others.
func TestCoversWritten(t *testing.T) {
	l := someSlots(4)
	leaf := func(i int) []byte { return leafOf(api.Open, l[i]) }
	for _, c := range []struct {
		open []bool
		want api.Cover
	}{
		{[]bool{false, false, true, false}, api.Cover{Open: l[2:3], Rest: [][]byte{rootOf(api.Open, l[:2]), leaf(3)}}},
		{[]bool{false, true, true, false}, api.Cover{Open: l[1:3], Rest: [][]byte{leaf(0), leaf(3)}}},
		{[]bool{true, true, false, false}, api.Cover{Open: l[:2], Rest: [][]byte{rootOf(api.Open, l[2:])}}},
		{[]bool{true, true, true, true}, api.Cover{Open: l}},
		{[]bool{false, false, false, false}, api.Cover{Rest: [][]byte{rootOf(api.Open, l)}}},
	} {
		if got, e := CoverOf(api.Open, l, c.open); e != api.OK || !sameCovers(got, c.want) {
			t.Errorf("CoverOf(2, 4 slots, %v) = %v %d, want %v 0", c.open, got, e, c.want)
		}
	}
}

// TestCoverRefuses: P5.5, ErrSize, if it is said of more or fewer slots.
func TestCoverRefuses(t *testing.T) {
	for _, mode := range sample.Modes() {
		for _, n := range numbers {
			for _, m := range []int{0, n - 1, n + 1, n / 2, 2 * n, 64 + n, 1000} {
				if m != n {
					mustNotCover(t, mode, someSlots(n), make([]bool, m), api.ErrSize)
					mustNotCover(t, mode, someSlots(n), slices.Repeat([]bool{true}, m), api.ErrSize)
				}
			}
		}
	}
	mustNotCover(t, api.Open, someSlots(1), nil, api.ErrSize)
}

// TestRootedCounts: P5.6, ErrProof, if the cover has more or fewer slots or digests than it is said of, the one in place of the other, too.
func TestRootedCounts(t *testing.T) {
	for _, mode := range sample.Modes() {
		for _, n := range []int{1, 2, 4, 8, 64} {
			l := someSlots(n)
			for _, open := range openings(n) {
				for _, c := range otherCovers(coverOf(mode, l, open)) {
					mustNotRooted(t, mode, open, c, api.ErrProof)
				}
			}
		}
	}
}

// otherCovers than c, with other numbers of slots or digests.
func otherCovers(c api.Cover) []api.Cover {
	moreOpen := append(slices.Clone(c.Open), api.Slot{})
	moreRest := append(slices.Clone(c.Rest), []byte{1})
	l := []api.Cover{
		{Open: moreOpen, Rest: c.Rest}, {Open: c.Open, Rest: moreRest}, {Open: moreOpen, Rest: moreRest},
		{Open: c.Open, Rest: append(slices.Clone(c.Rest), nil)}, {Open: make([]api.Slot, 100), Rest: make([][]byte, 100)}, {},
	}
	if len(c.Open) > 0 {
		l = append(l, api.Cover{Open: c.Open[1:], Rest: c.Rest}, api.Cover{Rest: c.Rest}, api.Cover{Open: c.Open[1:], Rest: moreRest})
	}
	if len(c.Rest) > 0 {
		l = append(l, api.Cover{Open: c.Open, Rest: c.Rest[1:]}, api.Cover{Open: c.Open}, api.Cover{Open: moreOpen, Rest: c.Rest[1:]})
	}
	return l
}

// TestRootedOthers: P5.6, as many slots and digests, but other ones, or in another order, have another root.
func TestRootedOthers(t *testing.T) {
	for _, mode := range sample.Modes() {
		l := someSlots(8)
		root := rootOf(mode, l)
		for _, open := range openings(8) {
			c := coverOf(mode, l, open)
			for i := range c.Open {
				other := slices.Clone(c.Open)
				other[i].Salt = append(slices.Clone(other[i].Salt[:len(other[i].Salt)/2]), 9)
				mustRootElse(t, mode, open, api.Cover{Open: other, Rest: c.Rest}, root)
				other = slices.Clone(c.Open)
				other[i], other[0] = other[0], other[i]
				if i > 0 {
					mustRootElse(t, mode, open, api.Cover{Open: other, Rest: c.Rest}, root)
				}
			}
			for i := range c.Rest {
				other := slices.Clone(c.Rest)
				other[i] = sample.OtherBytes(other[i])[i%6]
				mustRootElse(t, mode, open, api.Cover{Open: c.Open, Rest: other}, root)
				other = slices.Clone(c.Rest)
				other[i], other[0] = other[0], other[i]
				if i > 0 {
					mustRootElse(t, mode, open, api.Cover{Open: c.Open, Rest: other}, root)
				}
			}
		}
	}
}

// mustRootElse: the cover has a root, and another one.
func mustRootElse(t *testing.T, mode int, open []bool, c api.Cover, root []byte) {
	t.Helper()
	if got, e := Rooted(mode, open, c); e != api.OK || len(got) == 0 || bytes.Equal(got, root) {
		t.Errorf("Rooted(%d, %v, another cover) = %d bytes %d, want another root, 0", mode, open, len(got), e)
	}
}

// TestRootedClosed: P5.6, with no slot open the root is the digest of the cover, whatever it is.
func TestRootedClosed(t *testing.T) {
	digests := [][]byte{nil, {}, {1}, sample.Bytes(32), sample.Bytes(api.MaxTerm + 1)}
	for _, mode := range sample.Modes() {
		for _, n := range numbers {
			for _, d := range digests {
				if got, e := Rooted(mode, make([]bool, n), api.Cover{Rest: [][]byte{d}}); e != api.OK || !bytes.Equal(got, d) {
					t.Errorf("Rooted(%d, none of %d, a digest of %d bytes) = %d bytes %d", mode, n, len(d), len(got), e)
				}
			}
		}
	}
}

// TestRootedRefuses: P5.6, ErrKind, then ErrSize, then ErrProof.
func TestRootedRefuses(t *testing.T) {
	covers := []api.Cover{{}, {Rest: [][]byte{{1}}}, {Open: []api.Slot{{}}}, {Open: []api.Slot{{Data: []byte{1}}}}, {Rest: make([][]byte, 65)}}
	for _, c := range covers {
		for _, mode := range sample.WrongModes() {
			for _, n := range []int{0, 1, 3, 64, 128} {
				mustNotRooted(t, mode, make([]bool, n), c, api.ErrKind)
			}
		}
		for _, n := range wrongNumbers() {
			for _, mode := range sample.Modes() {
				mustNotRooted(t, mode, make([]bool, n), c, api.ErrSize)
				mustNotRooted(t, mode, slices.Repeat([]bool{true}, n), c, api.ErrSize)
			}
		}
	}
	mustNotRooted(t, api.Open, nil, api.Cover{Rest: [][]byte{{1}}}, api.ErrSize)
}

// TestRootedNotMade: P5.6, ErrProof for a slot that Leaf refuses, at each place, and for digests that are too long.
func TestRootedNotMade(t *testing.T) {
	for _, mode := range sample.Modes() {
		for _, wrong := range wrongSlots() {
			for _, s := range wrong {
				mustNotRooted(t, mode, []bool{true}, api.Cover{Open: []api.Slot{s}}, api.ErrProof)
				for i := range 4 {
					l := someSlots(4)
					l[i] = s
					mustNotRooted(t, mode, []bool{true, true, true, true}, api.Cover{Open: l}, api.ErrProof)
				}
			}
		}
		leaf := leafOf(mode, api.Slot{})
		most := sample.Bytes(api.MaxTerm - 10 - len(leaf))
		long := append(slices.Clone(most), 1)
		for _, open := range [][]bool{{true, false}, {false, true}, {true, false, false, false}, {false, false, false, true}} {
			c := api.Cover{Open: make([]api.Slot, 1), Rest: [][]byte{most}}
			if len(open) == 2 {
				if _, e := Rooted(mode, open, c); e != api.OK {
					t.Errorf("Rooted(%d, %v, the longest digest) = %d, want 0", mode, open, e)
				}
			}
			for range len(open)/2 - 1 {
				c.Rest = append(c.Rest, []byte{1})
			}
			for i := range c.Rest {
				c.Rest[i] = long
				mustNotRooted(t, mode, open, c, api.ErrProof)
				c.Rest[i] = []byte{1}
			}
		}
	}
}

// TestInputsStay: what is handed in stays as it is, spare room too, and nothing is kept from call to call.
func TestInputsStay(t *testing.T) {
	room := sample.Bytes(300)
	bytesBefore := slices.Clone(room)
	all := make([]api.Slot, 12)
	for i := range all {
		all[i] = api.Slot{Full: true, Salt: room[20*i : 20*i+3], Data: room[20*i+7 : 20*i+9]}
	}
	openAll := []bool{false, true, false, false, true, true, false, false, true, false, true, false}
	l, open := all[:8], openAll[:8]
	slotsBefore, openBefore := slices.Clone(all), slices.Clone(openAll)
	for _, mode := range sample.Modes() {
		root, _ := Root(mode, l)
		path, _ := Path(mode, l, 5)
		given := append(slices.Clone(path), []byte{5}, []byte{6})
		pathBefore := slices.Clone(given)
		c, _ := CoverOf(mode, l, open)
		rest := append(slices.Clone(c.Rest), []byte{7}, []byte{8})
		cover := api.Cover{Open: all[2:5], Rest: rest[:len(c.Rest)]}
		coverBefore := slices.Clone(rest)
		for range 2 {
			if e := CheckPath(mode, root, 8, 5, l[5], given[:3]); e != api.OK {
				t.Errorf("the same path is refused: %d", e)
			}
			if again, e := Rooted(mode, open, c); e != api.OK || !bytes.Equal(again, root) {
				t.Errorf("the same cover has another root: %v %d", again, e)
			}
			if again, e := CoverOf(mode, l, open); e != api.OK || !sameCovers(again, c) {
				t.Errorf("the same slots have another cover: %v %d", again, e)
			}
			Rooted(mode, open, cover)
			Leaf(mode, l[3])
			Root(mode, all[4:])
		}
		if !sample.SameParts(given, pathBefore) || !sample.SameParts(rest, coverBefore) {
			t.Errorf("in mode %d digests that were handed in are changed", mode)
		}
	}
	if !bytes.Equal(room, bytesBefore) || !sameSlots(all, slotsBefore) || !slices.Equal(openAll, openBefore) {
		t.Errorf("what was handed in is changed: %v %v %v", room, all, openAll)
	}
}

// TestAnswersStayApart: answers share no memory, spare room neither, with what is handed in, with each other, or list by list.
func TestAnswersStayApart(t *testing.T) {
	l := someSlots(8)
	open := []bool{2: true, 3: true, 7: true}
	rest := [][]byte{sample.Bytes(32)}
	for _, mode := range sample.Modes() {
		for name, of := range map[string]func() [][]byte{
			"Leaf":   func() [][]byte { b, _ := Leaf(mode, l[0]); return [][]byte{b} },
			"Root":   func() [][]byte { b, _ := Root(mode, l); return [][]byte{b} },
			"Root 1": func() [][]byte { b, _ := Root(mode, l[:1]); return [][]byte{b} },
			"Path":   func() [][]byte { p, _ := Path(mode, l, 3); return p },
			"Cover":  func() [][]byte { c, _ := CoverOf(mode, l, open); return bytesOf(c) },
			"Cover 0": func() [][]byte {
				c, _ := CoverOf(mode, l, make([]bool, 8))
				return bytesOf(c)
			},
			"Rooted": func() [][]byte {
				b, _ := Rooted(mode, open, coverOf(mode, l, open))
				return [][]byte{b}
			},
			"Rooted 0": func() [][]byte {
				b, _ := Rooted(mode, make([]bool, 4), api.Cover{Rest: rest})
				return [][]byte{b}
			},
		} {
			if !sample.Apart(of) {
				t.Errorf("an answer of %s shares its bytes", name)
			}
		}
	}
	if !sameSlots(l, someSlots(8)) || !bytes.Equal(rest[0], sample.Bytes(32)) {
		t.Errorf("answers share their bytes with what was handed in")
	}
}

// bytesOf a cover, list by list.
func bytesOf(c api.Cover) [][]byte {
	var l [][]byte
	for _, s := range c.Open {
		l = append(l, s.Salt, s.Data)
	}
	return append(l, c.Rest...)
}

// TestListsStayApart: lists of digests and slots that are told are new, spare room too.
func TestListsStayApart(t *testing.T) {
	l := someSlots(8)
	open := []bool{2: true, 3: true, 7: true}
	c, _ := CoverOf(api.Open, l, open)
	path, _ := Path(api.Open, l, 3)
	clear(c.Open[:cap(c.Open)])
	clear(c.Rest[:cap(c.Rest)])
	clear(path[:cap(path)])
	again, _ := CoverOf(api.Open, l, open)
	if !sameSlots(l, someSlots(8)) || !sameCovers(again, coverOf(api.Open, l, open)) {
		t.Errorf("a cover shares its lists with what was handed in or with another one")
	}
	if again, _ := Path(api.Open, l, 3); !sample.SameParts(again, pathOf(api.Open, l, 3)) {
		t.Errorf("a path shares its list with another one")
	}
}

package roll

import (
	"bytes"
	"crypto/sha256"
	"fmt"
	"math"
	"math/rand"
	"slices"
	"testing"

	"chirograph/api"
	"chirograph/oracle"
	"chirograph/sample"
)

// digest by layer 4, which must make it.
func digest(mode, tag int, parts ...[]byte) []byte {
	b, e := oracle.Digest(mode, tag, parts)
	if e != api.OK {
		panic(e)
	}
	return b
}

// rootOf a list, as P6.1 says, made from the front on: two parts with just as many entries are paired as soon as both stand there, what is left over in the end from behind.
func rootOf(mode int, l [][]byte) []byte {
	var tops [][]byte
	pairLast := func() {
		n := len(tops)
		tops = append(tops[:n-2], digest(mode, 6, tops[n-2], tops[n-1]))
	}
	for i, entry := range l {
		tops = append(tops, digest(mode, 5, entry))
		for n := i + 1; n%2 == 0; n /= 2 {
			pairLast()
		}
	}
	for len(tops) > 1 {
		pairLast()
	}
	if len(tops) == 0 {
		return digest(mode, 4)
	}
	return tops[0]
}

// part of a list: the places from one on, up to another.
type part struct{ from, to int }

// partsWith place i, of n entries, from the entry alone up to all of them.
func partsWith(i, n int) []part {
	p := part{0, n}
	l := []part{p}
	for p.to-p.from > 1 {
		first := 1
		for 2*first < p.to-p.from {
			first *= 2
		}
		if i < p.from+first {
			p.to = p.from + first
		} else {
			p.from += first
		}
		l = append(l, p)
	}
	slices.Reverse(l)
	return l
}

// beside a part, in the next greater one: the other part of it.
func beside(p, whole part) part {
	if p.from == whole.from {
		return part{p.to, whole.to}
	}
	return part{whole.from, p.from}
}

// up from a part: the roots beside it, as P6.2 and P6.4 say.
func up(mode int, l [][]byte, parts []part) [][]byte {
	var path [][]byte
	for i := range parts[1:] {
		b := beside(parts[i], parts[i+1])
		path = append(path, rootOf(mode, l[b.from:b.to]))
	}
	return path
}

// pathOf an entry, as P6.2 says.
func pathOf(mode int, l [][]byte, i int) [][]byte {
	return up(mode, l, partsWith(i, len(l)))
}

// below tells the parts that P6.4 goes through for m of n entries, at least one, from the last one up to all.
func below(m, n int) []part {
	parts := partsWith(m-1, n)
	for len(parts) > 1 && parts[1].to == m {
		parts = parts[1:]
	}
	return parts
}

// extOf a list, as P6.4 says.
func extOf(mode int, l [][]byte, m int) [][]byte {
	if m == 0 || m == len(l) {
		return nil
	}
	parts := below(m, len(l))
	path := up(mode, l, parts)
	if p := parts[0]; p.from > 0 {
		path = slices.Insert(path, 0, rootOf(mode, l[p.from:p.to]))
	}
	return path
}

// leads tells where a digest of a part leads to by a path, and false, if the path has more or fewer digests; of the parts that end behind the first m alone, and of all.
func leads(mode int, from []byte, parts []part, path [][]byte) (was, is []byte, fits bool) {
	if len(path) != len(parts)-1 {
		return nil, nil, false
	}
	was, is = from, from
	for i, d := range path {
		if parts[i].from == parts[i+1].from {
			is = digest(mode, 6, is, d)
		} else {
			was, is = digest(mode, 6, d, was), digest(mode, 6, d, is)
		}
	}
	return was, is, true
}

// includes says what P6.3 does, of digests that can be made.
func includes(mode int, top []byte, n, i int, entry []byte, path [][]byte) api.Errno {
	_, is, fits := leads(mode, digest(mode, 5, entry), partsWith(i, n), path)
	if !fits || !bytes.Equal(is, top) {
		return api.ErrProof
	}
	return api.OK
}

// extends says what P6.5 does, of digests that can be made.
func extends(mode int, old []byte, m int, top []byte, n int, path [][]byte) api.Errno {
	parts := below(max(m, 1), max(n, 1))
	var was, is []byte
	var fits bool
	switch {
	case m == 0:
		was, is, fits = digest(mode, 4), top, len(path) == 0
		if n == 0 {
			is = was
		}
	case m == n:
		was, is, fits = top, top, len(path) == 0
	case parts[0].from == 0:
		was, is, fits = leads(mode, old, parts, path)
	case len(path) > 0:
		was, is, fits = leads(mode, path[0], parts, path[1:])
	}
	if !fits || !bytes.Equal(was, old) || !bytes.Equal(is, top) {
		return api.ErrProof
	}
	return api.OK
}

// entries of a list, n of them, no two of them alike: with nothing, short, and longer than a digest.
func entries(n int) [][]byte {
	l := make([][]byte, n)
	for i := range l {
		l[i] = sample.Bytes(i * i % 97)
		if i > 0 {
			l[i] = append(l[i], byte(i))
		}
	}
	return l
}

// wrongCounts of entries that no list has.
func wrongCounts() []int {
	return []int{-1, -2, -64, -65, 65, 66, 128, 256, 257, 1 << 32, 1<<32 + 1, math.MinInt, math.MinInt + 1, math.MaxInt}
}

func mustNotRoot(t *testing.T, mode int, l [][]byte, want api.Errno) {
	t.Helper()
	if b, e := Root(mode, l); e != want || len(b) > 0 {
		t.Errorf("Root(%d, %d entries) = %d bytes %d, want none %d", mode, len(l), len(b), e, want)
	}
}

func mustNotInclude(t *testing.T, mode int, l [][]byte, i int, want api.Errno) {
	t.Helper()
	if p, e := Include(mode, l, i); e != want || len(p) > 0 {
		t.Errorf("Include(%d, %d entries, %d) = %d digests %d, want none %d", mode, len(l), i, len(p), e, want)
	}
}

func mustNotExtend(t *testing.T, mode int, l [][]byte, m int, want api.Errno) {
	t.Helper()
	if p, e := Extend(mode, l, m); e != want || len(p) > 0 {
		t.Errorf("Extend(%d, %d entries, %d) = %d digests %d, want none %d", mode, len(l), m, len(p), e, want)
	}
}

// mustRefuse a list, whatever is asked of it.
func mustRefuse(t *testing.T, mode int, l [][]byte, want api.Errno) {
	t.Helper()
	mustNotRoot(t, mode, l, want)
	for _, i := range append(sample.WrongPlaces(len(l)), 0, 1, len(l)-1) {
		mustNotInclude(t, mode, l, i, want)
		mustNotExtend(t, mode, l, i, want)
	}
}

func mustCheckInclude(t *testing.T, mode int, top []byte, n, i int, entry []byte, path [][]byte, want api.Errno) {
	t.Helper()
	if e := CheckInclude(mode, top, n, i, entry, path); e != want {
		t.Errorf("CheckInclude(%d, %d bytes, %d, %d, %d bytes, %d digests) = %d, want %d", mode, len(top), n, i, len(entry), len(path), e, want)
	}
}

func mustCheckExtend(t *testing.T, mode int, old []byte, m int, top []byte, n int, path [][]byte, want api.Errno) {
	t.Helper()
	if e := CheckExtend(mode, old, m, top, n, path); e != want {
		t.Errorf("CheckExtend(%d, %d bytes, %d, %d bytes, %d, %d digests) = %d, want %d", mode, len(old), m, len(top), n, len(path), e, want)
	}
}

// TestRootsWritten: P6.1, written out by hand, and hashed.
func TestRootsWritten(t *testing.T) {
	one, two := []byte{5, 1, 0, 0, 0, 1, 97}, []byte{5, 1, 0, 0, 0, 0}
	pair := slices.Concat([]byte{6, 2, 0, 0, 0, 7}, one, []byte{0, 0, 0, 6}, two)
	l := [][]byte{{97}, nil, {97}}
	for n, want := range [][]byte{{4, 0}, one, pair, slices.Concat([]byte{6, 2, 0, 0, 0, 23}, pair, []byte{0, 0, 0, 7}, one)} {
		if got, e := Root(api.Open, l[:n]); e != api.OK || !bytes.Equal(got, want) {
			t.Errorf("Root(2, %v) = %v %d, want %v 0", l[:n], got, e, want)
		}
	}
	none, h, g := sha256.Sum256([]byte{4, 0}), sha256.Sum256(one), sha256.Sum256(two)
	both := sha256.Sum256(slices.Concat([]byte{6, 2, 0, 0, 0, 32}, h[:], []byte{0, 0, 0, 32}, g[:]))
	all := sha256.Sum256(slices.Concat([]byte{6, 2, 0, 0, 0, 32}, both[:], []byte{0, 0, 0, 32}, h[:]))
	for n, want := range [][32]byte{none, h, both, all} {
		if got, e := Root(api.Hashed, l[:n]); e != api.OK || !bytes.Equal(got, want[:]) {
			t.Errorf("Root(1, %v) = %v %d, want %v 0", l[:n], got, e, want)
		}
	}
}

// TestRoots: P6.1, of each number of entries.
func TestRoots(t *testing.T) {
	for _, mode := range sample.Modes() {
		for n := range 65 {
			for _, l := range [][][]byte{entries(n), make([][]byte, n)} {
				if got, e := Root(mode, l); e != api.OK || !bytes.Equal(got, rootOf(mode, l)) {
					t.Errorf("Root(%d, %d entries) = %d bytes %d", mode, n, len(got), e)
				}
			}
		}
	}
}

// TestFirstParts: P6.1, the first part is the greatest power of two that is below their number, by hand.
func TestFirstParts(t *testing.T) {
	for n, first := range map[int]int{2: 1, 3: 2, 4: 2, 5: 4, 6: 4, 7: 4, 8: 4, 9: 8, 16: 8, 17: 16, 31: 16, 32: 16, 33: 32, 63: 32, 64: 32} {
		for _, mode := range sample.Modes() {
			l := entries(n)
			one, _ := Root(mode, l[:first])
			rest, _ := Root(mode, l[first:])
			if got, e := Root(mode, l); e != api.OK || !bytes.Equal(got, digest(mode, 6, one, rest)) {
				t.Errorf("Root(%d, %d entries) = %d bytes %d, want those of %d and of the rest", mode, n, len(got), e, first)
			}
		}
	}
}

// TestModesRefused: P6.1 to P6.5, ErrKind ahead of all else.
func TestModesRefused(t *testing.T) {
	long := make([]byte, api.MaxTerm+1)
	for _, mode := range sample.WrongModes() {
		for _, n := range []int{0, 1, 2, 5, 64, 65, 1000} {
			mustRefuse(t, mode, entries(n), api.ErrKind)
			mustRefuse(t, mode, slices.Repeat([][]byte{long}, n), api.ErrKind)
		}
		for _, n := range append(wrongCounts(), 0, 1, 2, 64) {
			for _, i := range []int{0, 1, 2, -1, 64, math.MaxInt, math.MinInt} {
				mustCheckInclude(t, mode, nil, n, i, nil, nil, api.ErrKind)
				mustCheckInclude(t, mode, long, n, i, long, [][]byte{long}, api.ErrKind)
				mustCheckExtend(t, mode, nil, i, nil, n, nil, api.ErrKind)
				mustCheckExtend(t, mode, long, i, long, n, [][]byte{long}, api.ErrKind)
			}
		}
	}
}

// TestTooManyEntries: P6.1 to P6.5, ErrSize ahead of ErrRange and of what else there is.
func TestTooManyEntries(t *testing.T) {
	long := make([]byte, api.MaxTerm+1)
	for _, mode := range sample.Modes() {
		for _, n := range []int{65, 66, 127, 128, 129, 256, 1000} {
			mustRefuse(t, mode, entries(n), api.ErrSize)
			mustRefuse(t, mode, slices.Repeat([][]byte{long}, n), api.ErrSize)
		}
		for _, n := range wrongCounts() {
			for _, i := range []int{0, 1, -1, 64, n, n - 1, n + 1, math.MaxInt, math.MinInt} {
				mustCheckInclude(t, mode, nil, n, i, nil, nil, api.ErrSize)
				mustCheckInclude(t, mode, long, n, i, long, [][]byte{long}, api.ErrSize)
				mustCheckExtend(t, mode, nil, i, nil, n, nil, api.ErrSize)
				mustCheckExtend(t, mode, digest(mode, 4), i, digest(mode, 4), n, [][]byte{long}, api.ErrSize)
			}
		}
	}
}

// TestPlaces: P6.2 and P6.3, ErrRange, ahead of digests that can't be made and of proofs that do not fit; of an empty list there is no place.
func TestPlaces(t *testing.T) {
	long := make([]byte, api.MaxTerm+1)
	for _, mode := range sample.Modes() {
		for n := range 65 {
			l := entries(n)
			for _, i := range sample.WrongPlaces(n) {
				mustNotInclude(t, mode, l, i, api.ErrRange)
				mustNotInclude(t, mode, slices.Repeat([][]byte{long}, n), i, api.ErrRange)
				mustCheckInclude(t, mode, rootOf(mode, l[:min(n, 1)]), n, i, nil, nil, api.ErrRange)
				mustCheckInclude(t, mode, long, n, i, long, [][]byte{long}, api.ErrRange)
			}
		}
	}
}

// TestBegunWith: P6.4 and P6.5, ErrRange, so, too; 0 and all entries may be asked for.
func TestBegunWith(t *testing.T) {
	long := make([]byte, api.MaxTerm+1)
	for _, mode := range sample.Modes() {
		for n := range 65 {
			for _, m := range sample.WrongPlaces(n + 1) {
				mustNotExtend(t, mode, entries(n), m, api.ErrRange)
				mustNotExtend(t, mode, slices.Repeat([][]byte{long}, n), m, api.ErrRange)
				mustCheckExtend(t, mode, digest(mode, 4), m, digest(mode, 4), n, nil, api.ErrRange)
				mustCheckExtend(t, mode, long, m, long, n, [][]byte{long}, api.ErrRange)
			}
		}
	}
}

// TestPaths: P6.2, of each place in each number of entries, and P6.3, that they are proofs.
func TestPaths(t *testing.T) {
	for _, mode := range sample.Modes() {
		for n := range 65 {
			l := entries(n)
			top := rootOf(mode, l)
			for i := range n {
				want := pathOf(mode, l, i)
				if got, e := Include(mode, l, i); e != api.OK || !sample.SameParts(got, want) {
					t.Errorf("Include(%d, %d entries, %d) = %d digests %d, want other ones", mode, n, i, len(got), e)
				}
				mustCheckInclude(t, mode, top, n, i, l[i], want, api.OK)
			}
		}
	}
}

// TestPathsWritten: P6.2, of five entries, part by part.
func TestPathsWritten(t *testing.T) {
	l := entries(5)
	for _, mode := range sample.Modes() {
		of := func(from, to int) []byte { return rootOf(mode, l[from:to]) }
		for i, want := range [][][]byte{
			{of(1, 2), of(2, 4), of(4, 5)}, {of(0, 1), of(2, 4), of(4, 5)}, {of(3, 4), of(0, 2), of(4, 5)}, {of(2, 3), of(0, 2), of(4, 5)}, {of(0, 4)},
		} {
			if got, e := Include(mode, l, i); e != api.OK || !sample.SameParts(got, want) {
				t.Errorf("Include(%d, 5 entries, %d) = %v %d, want %v 0", mode, i, got, e, want)
			}
		}
		if got, e := Include(mode, l[:1], 0); e != api.OK || len(got) > 0 {
			t.Errorf("Include(%d, 1 entry, 0) = %v %d, want nothing 0", mode, got, e)
		}
	}
}

// TestExtensions: P6.4, of each beginning of each number of entries, and P6.5, that they are proofs.
func TestExtensions(t *testing.T) {
	for _, mode := range sample.Modes() {
		for n := range 65 {
			l := entries(n)
			top := rootOf(mode, l)
			for m := range n + 1 {
				want := extOf(mode, l, m)
				if got, e := Extend(mode, l, m); e != api.OK || !sample.SameParts(got, want) {
					t.Errorf("Extend(%d, %d entries, %d) = %d digests %d, want other ones", mode, n, m, len(got), e)
				}
				mustCheckExtend(t, mode, rootOf(mode, l[:m]), m, top, n, want, api.OK)
			}
		}
	}
}

// TestExtensionsWritten: P6.4, of seven entries, part by part.
func TestExtensionsWritten(t *testing.T) {
	l := entries(7)
	for _, mode := range sample.Modes() {
		of := func(from, to int) []byte { return rootOf(mode, l[from:to]) }
		for m, want := range [][][]byte{
			nil,
			{of(1, 2), of(2, 4), of(4, 7)},
			{of(2, 4), of(4, 7)},
			{of(2, 3), of(3, 4), of(0, 2), of(4, 7)},
			{of(4, 7)},
			{of(4, 5), of(5, 6), of(6, 7), of(0, 4)},
			{of(4, 6), of(6, 7), of(0, 4)},
			nil,
		} {
			if got, e := Extend(mode, l, m); e != api.OK || !sample.SameParts(got, want) {
				t.Errorf("Extend(%d, 7 entries, %d) = %v %d, want %v 0", mode, m, got, e, want)
			}
		}
	}
}

// TestLongEntries: P6.1, an entry whose frame is just as long as may be, and longer ones; P6.2 and P6.4, too.
func TestLongEntries(t *testing.T) {
	most := sample.Bytes(api.MaxTerm - 6)
	l := [][]byte{most}
	for _, mode := range sample.Modes() {
		if got, e := Root(mode, l); e != api.OK || !bytes.Equal(got, digest(mode, 5, most)) {
			t.Errorf("Root(%d, an entry of %d bytes) = %d bytes %d", mode, len(most), len(got), e)
		}
		for _, more := range []int{1, 2, 6, 7, api.MaxTerm} {
			mustNotMake(t, mode, [][]byte{make([]byte, len(most)+more)})
		}
		long := append(most, 1)
		for _, n := range []int{2, 5, 9, 64} {
			for i := 0; i < n; i += max(1, n/6) {
				l := entries(n)
				l[i] = long
				mustNotMake(t, mode, l)
			}
		}
	}
	for _, got := range []string{said(Include(api.Open, l, 0)), said(Extend(api.Open, l, 0)), said(Extend(api.Open, l, 1))} {
		if got != "0 digests, 0" {
			t.Errorf("of an open entry of %d bytes: %s", len(most), got)
		}
	}
}

// said in short: how many digests a path has, and the error.
func said(path [][]byte, e api.Errno) string {
	return fmt.Sprintf("%d digests, %d", len(path), int(e))
}

// mustNotMake the root of a list, nor a proof of any entry or beginning of it.
func mustNotMake(t *testing.T, mode int, l [][]byte) {
	t.Helper()
	mustNotRoot(t, mode, l, api.ErrSize)
	for i := range l {
		mustNotInclude(t, mode, l, i, api.ErrSize)
		mustNotExtend(t, mode, l, i, api.ErrSize)
	}
	mustNotExtend(t, mode, l, len(l), api.ErrSize)
}

// TestLongRoots: P6.1, of two open roots that a pair has just room for, and of longer ones; hashed ones always have it.
func TestLongRoots(t *testing.T) {
	room := api.MaxTerm - 10 - 2*6
	all := sample.Bytes(room + 1)
	for _, one := range []int{0, room / 2, room} {
		l := [][]byte{all[:one], all[:room-one]}
		if got, e := Root(api.Open, l); e != api.OK || len(got) != api.MaxTerm {
			t.Errorf("Root(2, entries of %d and %d bytes) = %d bytes %d", len(l[0]), len(l[1]), len(got), e)
		}
		mustNotMake(t, api.Open, append(l, nil))
		mustNotMake(t, api.Open, [][]byte{all[:one], all[:room-one+1]})
	}
	l := [][]byte{all[:room/2+1], all[:room/2+1], nil}
	mustNotMake(t, api.Open, l)
	if got, e := Root(api.Hashed, l); e != api.OK || !bytes.Equal(got, rootOf(api.Hashed, l)) {
		t.Errorf("Root(1, two long entries and one without bytes) = %v %d", got, e)
	}
}

// TestNothingElseIncluded: P6.3, what comes of it: of entries no two of which are alike each is proved at its place alone, by its path.
func TestNothingElseIncluded(t *testing.T) {
	l := entries(12)
	for _, mode := range sample.Modes() {
		for n := range 10 {
			top := rootOf(mode, l[:n])
			for i := range n {
				for j, entry := range l {
					for k := range n {
						want := api.ErrProof
						if i == j && i == k {
							want = api.OK
						}
						mustCheckInclude(t, mode, top, n, i, entry, pathOf(mode, l[:n], k), want)
					}
				}
			}
		}
	}
}

// TestOtherInclusions: P6.3, with one thing changed in a path, its root or its entry, and with more or fewer digests.
func TestOtherInclusions(t *testing.T) {
	l := entries(9)
	for _, mode := range sample.Modes() {
		for n := range 10 {
			top := rootOf(mode, l[:n])
			for i := range n {
				path := pathOf(mode, l[:n], i)
				for _, other := range sample.OtherPaths(path, top) {
					mustCheckInclude(t, mode, top, n, i, l[i], other, api.ErrProof)
				}
				for _, other := range append(sample.OtherBytes(top), nil, digest(mode, 4), l[i]) {
					mustCheckInclude(t, mode, other, n, i, l[i], path, api.ErrProof)
				}
				for _, other := range [][]byte{append([]byte{0}, l[i]...), append(slices.Clone(l[i]), 0), top, digest(mode, 5, l[i])} {
					mustCheckInclude(t, mode, top, n, i, other, path, api.ErrProof)
				}
			}
		}
	}
}

// TestOtherNumbersIncluded: P6.3, of other numbers of entries and other places than a path was told of: it fits by its digests alone.
func TestOtherNumbersIncluded(t *testing.T) {
	l := entries(9)
	fit := 0
	for _, mode := range sample.Modes() {
		for n := 1; n < 10; n++ {
			top := rootOf(mode, l[:n])
			for j := range n {
				path := pathOf(mode, l[:n], j)
				for other := 1; other < 34; other++ {
					for i := range other {
						want := includes(mode, top, other, i, l[j], path)
						mustCheckInclude(t, mode, top, other, i, l[j], path, want)
						if want == api.OK && other != n {
							fit++
						}
					}
				}
			}
		}
	}
	if fit == 0 {
		t.Errorf("no path fits another number of entries")
	}
}

// TestBegunOtherwise: P6.5, what comes of it: of all lists of up to five entries of two sorts just those are proved to be the beginning of another one that are, by whichever of their paths.
func TestBegunOtherwise(t *testing.T) {
	for n := range 6 {
		for _, l := range lists(n) {
			top := rootOf(api.Open, l)
			for m := range n + 1 {
				for _, began := range lists(m) {
					old := rootOf(api.Open, began)
					want := api.ErrProof
					if m == 0 || sample.SameParts(l[:m], began) {
						want = api.OK
					}
					mustCheckExtend(t, api.Open, old, m, top, n, extOf(api.Open, l, m), want)
					if want == api.ErrProof {
						mustCheckExtend(t, api.Open, old, m, top, n, extOf(api.Open, slices.Concat(began, l[m:]), m), want)
					}
				}
			}
		}
	}
}

// lists of n entries, each of them one of two.
func lists(n int) [][][]byte {
	all := make([][][]byte, 1<<n)
	for bits := range all {
		for i := range n {
			all[bits] = append(all[bits], []byte{byte(bits >> i & 1)})
		}
	}
	return all
}

// TestOtherExtensions: P6.5, with one thing changed in a path or a root, and with more or fewer digests.
func TestOtherExtensions(t *testing.T) {
	l := entries(9)
	for _, mode := range sample.Modes() {
		for n := range 10 {
			top := rootOf(mode, l[:n])
			for m := range n + 1 {
				old, path := rootOf(mode, l[:m]), extOf(mode, l[:n], m)
				for _, other := range sample.OtherPaths(path, top) {
					mustCheckExtend(t, mode, old, m, top, n, other, api.ErrProof)
				}
				for _, other := range append(sample.OtherBytes(old), nil) {
					mustCheckExtend(t, mode, other, m, top, n, path, api.ErrProof)
				}
				for _, other := range append(sample.OtherBytes(top), nil) {
					want := api.ErrProof
					if m == 0 && n > 0 {
						want = api.OK
					}
					mustCheckExtend(t, mode, old, m, other, n, path, want)
				}
			}
		}
	}
}

// TestOtherNumbersExtended: P6.5, of other numbers of entries than a path was told of: it fits by its digests alone.
func TestOtherNumbersExtended(t *testing.T) {
	l := entries(9)
	fit := 0
	for _, mode := range sample.Modes() {
		for n := range 10 {
			top := rootOf(mode, l[:n])
			for k := range n + 1 {
				old, path := rootOf(mode, l[:k]), extOf(mode, l[:n], k)
				for other := range 34 {
					for m := range other + 1 {
						want := extends(mode, old, m, top, other, path)
						mustCheckExtend(t, mode, old, m, top, other, path, want)
						if want == api.OK && m > 0 && m < other && (m != k || other != n) {
							fit++
						}
					}
				}
			}
		}
	}
	if fit == 0 {
		t.Errorf("no path fits other numbers of entries")
	}
}

// TestMixedProofs: P6.3 and P6.5, of digests that are taken from a few, and of what they lead to, one of it changed or nothing.
func TestMixedProofs(t *testing.T) {
	chance := rand.New(rand.NewSource(6))
	for range 20000 {
		mode := sample.Modes()[chance.Intn(2)]
		some := func() []byte { return sample.Bytes(chance.Intn(4)) }
		n := 1 + chance.Intn(64)
		i := chance.Intn(n)
		path := make([][]byte, chance.Intn(8))
		if chance.Intn(2) == 0 {
			path = make([][]byte, len(below(i+1, n)))
		}
		for k := range path {
			path[k] = some()
		}
		entry, old := some(), some()
		_, is, _ := leads(mode, digest(mode, 5, entry), partsWith(i, n), path)
		mustCheckInclude(t, mode, is, n, i, entry, path, includes(mode, is, n, i, entry, path))
		mustCheckInclude(t, mode, old, n, i, entry, path, includes(mode, old, n, i, entry, path))
		if len(path) == 0 {
			continue
		}
		for _, from := range [][]byte{old, path[0]} {
			rest := path
			if chance.Intn(2) == 0 {
				rest = path[1:]
			}
			was, is, _ := leads(mode, from, below(i+1, n), rest)
			mustCheckExtend(t, mode, was, i+1, is, n, path, extends(mode, was, i+1, is, n, path))
			mustCheckExtend(t, mode, old, i+1, is, n, path, extends(mode, old, i+1, is, n, path))
			mustCheckExtend(t, mode, was, i+1, old, n, path, extends(mode, was, i+1, old, n, path))
		}
	}
}

// TestOfNothing: P6.5, every list began without entries, whatever its root is; a list without entries has theirs.
func TestOfNothing(t *testing.T) {
	for _, mode := range sample.Modes() {
		nothing := digest(mode, 4)
		for _, n := range []int{0, 1, 2, 5, 63, 64} {
			for _, top := range [][]byte{nil, {}, {1}, nothing, rootOf(mode, entries(n)), rootOf(mode, entries(3)), sample.Bytes(api.MaxTerm + 1)} {
				want := api.OK
				if n == 0 && !bytes.Equal(top, nothing) {
					want = api.ErrProof
				}
				mustCheckExtend(t, mode, nothing, 0, top, n, nil, want)
				mustCheckExtend(t, mode, slices.Clone(nothing), 0, top, n, [][]byte{}, want)
				for _, path := range [][][]byte{{nil}, {nothing}, {top}, {nothing, top}} {
					mustCheckExtend(t, mode, nothing, 0, top, n, path, api.ErrProof)
				}
				for _, old := range append(sample.OtherBytes(nothing), nil, digest(3-mode, 4), digest(mode, 5, nil)) {
					mustCheckExtend(t, mode, old, 0, top, n, nil, api.ErrProof)
				}
				if !bytes.Equal(top, nothing) {
					mustCheckExtend(t, mode, top, 0, top, n, nil, api.ErrProof)
				}
			}
		}
	}
}

// TestOfAll: P6.5, of all entries both roots are the same, whatever they are.
func TestOfAll(t *testing.T) {
	for _, mode := range sample.Modes() {
		for n := 1; n < 65; n++ {
			for _, top := range [][]byte{nil, {1}, digest(mode, 4), rootOf(mode, entries(n)), sample.Bytes(100)} {
				mustCheckExtend(t, mode, slices.Clone(top), n, top, n, nil, api.OK)
				mustCheckExtend(t, mode, top, n, top, n, [][]byte{nil}, api.ErrProof)
				mustCheckExtend(t, mode, top, n, top, n, [][]byte{top}, api.ErrProof)
				mustCheckExtend(t, mode, append(slices.Clone(top), 0), n, top, n, nil, api.ErrProof)
				mustCheckExtend(t, mode, digest(mode, 4, top), n, top, n, nil, api.ErrProof)
			}
		}
		long := sample.Bytes(api.MaxTerm + 1)
		mustCheckExtend(t, mode, slices.Clone(long), 1, long, 1, nil, api.OK)
	}
}

// TestInclusionsNotMade: P6.3, ErrProof for an entry or a digest of the path that is too long; of the longest ones that may be there are proofs.
func TestInclusionsNotMade(t *testing.T) {
	leaf := digest(api.Open, 5, nil)
	entry, beside := sample.Bytes(api.MaxTerm-6), sample.Bytes(api.MaxTerm-10-len(leaf))
	mustCheckInclude(t, api.Open, digest(api.Open, 5, entry), 1, 0, entry, nil, api.OK)
	mustCheckInclude(t, api.Open, digest(api.Open, 6, leaf, beside), 2, 0, nil, [][]byte{beside}, api.OK)
	mustCheckInclude(t, api.Open, digest(api.Open, 6, beside, leaf), 2, 1, nil, [][]byte{beside}, api.OK)
	entry, beside = append(entry, 1), append(beside, 1)
	for _, mode := range sample.Modes() {
		for _, top := range [][]byte{nil, digest(mode, 4), entry} {
			mustCheckInclude(t, mode, top, 1, 0, entry, nil, api.ErrProof)
			mustCheckInclude(t, mode, top, 2, 0, entry, [][]byte{nil}, api.ErrProof)
		}
		for n := 2; n < 9; n++ {
			for i := range n {
				for k := range len(partsWith(i, n)) - 1 {
					path := make([][]byte, len(partsWith(i, n))-1)
					path[k] = beside
					mustCheckInclude(t, mode, nil, n, i, nil, path, api.ErrProof)
					mustCheckInclude(t, mode, beside, n, i, nil, path, api.ErrProof)
				}
			}
		}
	}
}

// TestExtensionsNotMade: P6.5, ErrProof for digests that are too long; of the longest ones that may be there are proofs.
func TestExtensionsNotMade(t *testing.T) {
	one, most := []byte{1}, sample.Bytes(api.MaxTerm-10-1)
	top := digest(api.Open, 6, most, one)
	mustCheckExtend(t, api.Open, most, 1, top, 2, [][]byte{one}, api.OK)
	mustCheckExtend(t, api.Open, one, 1, digest(api.Open, 6, one, most), 2, [][]byte{most}, api.OK)
	long, longer := append(most, 1), append(most, 1, 1)
	for _, mode := range sample.Modes() {
		for _, top := range [][]byte{nil, one, top} {
			mustCheckExtend(t, mode, long, 1, top, 2, [][]byte{one}, api.ErrProof)
			mustCheckExtend(t, mode, one, 1, top, 2, [][]byte{long}, api.ErrProof)
			mustCheckExtend(t, mode, top, 1, top, 2, [][]byte{longer}, api.ErrProof)
		}
		for n := 3; n < 10; n++ {
			for m := 1; m < n; m++ {
				path := extOf(mode, make([][]byte, n), m)
				for k := range path {
					other := slices.Clone(path)
					other[k] = longer
					for _, root := range [][]byte{nil, one, long} {
						mustCheckExtend(t, mode, root, m, root, n, other, api.ErrProof)
					}
				}
			}
		}
	}
}

// TestInputsStay: what is handed in stays as it is, spare room too, and nothing is kept from call to call.
func TestInputsStay(t *testing.T) {
	room := sample.Bytes(300)
	bytesBefore := slices.Clone(room)
	all := make([][]byte, 20)
	for i := range all {
		all[i] = room[10*i : 10*i+3]
	}
	entriesBefore := sample.Copies(all)
	for _, mode := range sample.Modes() {
		for n := range 14 {
			l := all[:n]
			top := rootOf(mode, l)
			for i := range n {
				began := rootOf(mode, l[:i])
				path := append(pathOf(mode, l, i), []byte{5}, []byte{6})
				ext := append(extOf(mode, l, i), []byte{7}, []byte{8})
				pathBefore, extBefore := sample.Copies(path), sample.Copies(ext)
				for range 2 {
					mustCheckInclude(t, mode, top, n, i, l[i], path[:len(path)-2], api.OK)
					mustCheckExtend(t, mode, began, i, top, n, ext[:len(ext)-2], api.OK)
					if got, e := Include(mode, l, i); e != api.OK || !sample.SameParts(got, path[:len(path)-2]) {
						t.Errorf("Include(%d, %d entries, %d) has another path: %d", mode, n, i, e)
					}
					if got, e := Extend(mode, l, i); e != api.OK || !sample.SameParts(got, ext[:len(ext)-2]) {
						t.Errorf("Extend(%d, %d entries, %d) has another path: %d", mode, n, i, e)
					}
				}
				if !sample.SameParts(path, pathBefore) || !sample.SameParts(ext, extBefore) {
					t.Errorf("in mode %d digests that were handed in are changed", mode)
				}
			}
		}
	}
	if !bytes.Equal(room, bytesBefore) || !sample.SameParts(all, entriesBefore) {
		t.Errorf("what was handed in is changed: %v %v", room, all)
	}
}

// TestAnswersStayApart: answers share no memory, spare room neither, with what is handed in or with each other.
func TestAnswersStayApart(t *testing.T) {
	l := entries(7)
	for _, mode := range sample.Modes() {
		for n := range 8 {
			if !sample.Apart(func() [][]byte { b, _ := Root(mode, l[:n]); return [][]byte{b} }) {
				t.Errorf("roots of %d entries share their bytes", n)
			}
			for i := range n {
				if !sample.Apart(func() [][]byte { p, _ := Include(mode, l[:n], i); return p }) {
					t.Errorf("paths of entry %d of %d share their bytes", i, n)
				}
				if !sample.Apart(func() [][]byte { p, _ := Extend(mode, l[:n], i); return p }) {
					t.Errorf("paths of the first %d of %d entries share their bytes", i, n)
				}
				path, _ := Include(mode, l[:n], i)
				ext, _ := Extend(mode, l[:n], i)
				clear(path[:cap(path)])
				clear(ext[:cap(ext)])
				path, _ = Include(mode, l[:n], i)
				ext, _ = Extend(mode, l[:n], i)
				if !sample.SameParts(path, pathOf(mode, l[:n], i)) || !sample.SameParts(ext, extOf(mode, l[:n], i)) {
					t.Errorf("paths of place %d of %d share their lists", i, n)
				}
			}
		}
	}
	if !sample.SameParts(l, entries(7)) {
		t.Errorf("answers share their bytes with what was handed in")
	}
}

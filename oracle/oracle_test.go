package oracle

import (
	"bytes"
	"crypto/hmac"
	"crypto/sha256"
	"encoding/binary"
	"math"
	"slices"
	"testing"

	"chirograph/api"
	"chirograph/sample"
)

// wrongTags there are not, some of them a tag by their lowest byte.
var wrongTags = []int{0, -1, 10, 11, 255, 256, 257, 265, 1 << 32, 1<<32 + 1, -255, math.MinInt, math.MinInt + 1, math.MaxInt}

// written: a frame and what it is of, written out by hand.
type written struct {
	tag   int
	parts [][]byte
	frame []byte
}

func frames() []written {
	wide := sample.Bytes(0x10203)
	return []written{
		{1, nil, []byte{1, 0}},
		{9, [][]byte{}, []byte{9, 0}},
		{2, [][]byte{{97}, nil}, []byte{2, 2, 0, 0, 0, 1, 97, 0, 0, 0, 0}},
		{2, [][]byte{nil, {97}}, []byte{2, 2, 0, 0, 0, 0, 0, 0, 0, 1, 97}},
		{5, [][]byte{{}}, []byte{5, 1, 0, 0, 0, 0}},
		{7, [][]byte{{0, 0, 0, 0}, {255}, {1, 2}}, []byte{7, 3, 0, 0, 0, 4, 0, 0, 0, 0, 0, 0, 0, 1, 255, 0, 0, 0, 2, 1, 2}},
		{3, make([][]byte, 8), append([]byte{3, 8}, make([]byte, 32)...)},
		{4, [][]byte{{1}, {2}, {3}, {4}, {5}, {6}, {7}, {8}}, []byte{
			4, 8, 0, 0, 0, 1, 1, 0, 0, 0, 1, 2, 0, 0, 0, 1, 3, 0, 0, 0, 1, 4, 0, 0, 0, 1, 5, 0, 0, 0, 1, 6, 0, 0, 0, 1, 7, 0, 0, 0, 1, 8,
		}},
		{6, [][]byte{wide[:255]}, append([]byte{6, 1, 0, 0, 0, 255}, wide[:255]...)},
		{8, [][]byte{wide[:256]}, append([]byte{8, 1, 0, 0, 1, 0}, wide[:256]...)},
		{1, [][]byte{wide, {7}}, slices.Concat([]byte{1, 2, 0, 1, 2, 3}, wide, []byte{0, 0, 0, 1, 7})},
	}
}

// full is a list of n parts whose frame has just so many bytes.
func full(n, size int) [][]byte {
	parts := make([][]byte, n)
	room := size - 2 - 4*n
	for i := range parts {
		parts[i] = make([]byte, room/n)
	}
	parts[n-1] = make([]byte, room-(n-1)*(room/n))
	return parts
}

// framed is a frame, which must be told.
func framed(t *testing.T, tag int, parts [][]byte) []byte {
	t.Helper()
	b, e := Frame(tag, parts)
	if e != api.OK {
		t.Fatalf("Frame(%d, %d parts) = %d, want 0", tag, len(parts), e)
	}
	return b
}

// mustNotFrame parts, nor digest them in any mode, and tell nothing else.
func mustNotFrame(t *testing.T, tag int, parts [][]byte, want api.Errno) {
	t.Helper()
	if b, e := Frame(tag, parts); e != want || len(b) > 0 {
		t.Errorf("Frame(%d, %d parts) = %d bytes %d, want none %d", tag, len(parts), len(b), e, want)
	}
	for _, mode := range []int{api.Hashed, api.Open} {
		if b, e := Digest(mode, tag, parts); e != want || len(b) > 0 {
			t.Errorf("Digest(%d, %d, %d parts) = %d bytes %d, want none %d", mode, tag, len(parts), len(b), e, want)
		}
	}
}

// mustNotParse b, and tell nothing else.
func mustNotParse(t *testing.T, b []byte, want api.Errno) {
	t.Helper()
	if tag, parts, e := Parse(b); e != want || tag != 0 || len(parts) > 0 {
		t.Errorf("Parse(%d bytes: %v ..) = %d %d parts %d, want none %d", len(b), b[:min(len(b), 20)], tag, len(parts), e, want)
	}
}

// TestFrames: P4.1, and back by P4.2.
func TestFrames(t *testing.T) {
	for _, w := range frames() {
		if got := framed(t, w.tag, w.parts); !bytes.Equal(got, w.frame) {
			t.Errorf("Frame(%d, %v) = %v, want %v", w.tag, w.parts, got, w.frame)
		}
		if tag, parts, e := Parse(w.frame); e != api.OK || tag != w.tag || !sample.SameParts(parts, w.parts) {
			t.Errorf("Parse(%v) = %d %v %d, want %d %v 0", w.frame, tag, parts, e, w.tag, w.parts)
		}
	}
}

// TestTags: P4.1, each tag that there is, and ErrRange for those that there are not, ahead of ErrSize.
func TestTags(t *testing.T) {
	for tag := 1; tag <= 9; tag++ {
		if got := framed(t, tag, [][]byte{{5}}); !bytes.Equal(got, []byte{byte(tag), 1, 0, 0, 0, 1, 5}) {
			t.Errorf("the frame under %d = %v", tag, got)
		}
	}
	big := full(1, api.MaxTerm+1)
	for _, tag := range wrongTags {
		mustNotFrame(t, tag, nil, api.ErrRange)
		mustNotFrame(t, tag, [][]byte{{5}}, api.ErrRange)
		mustNotFrame(t, tag, make([][]byte, 9), api.ErrRange)
		mustNotFrame(t, tag, big, api.ErrRange)
	}
}

// TestTooManyParts: P4.1, ErrSize, however short they are.
func TestTooManyParts(t *testing.T) {
	for n := range 9 {
		if b := framed(t, 1, make([][]byte, n)); len(b) != 2+4*n || int(b[1]) != n {
			t.Errorf("the frame of %d empty parts = %v", n, b)
		}
	}
	for _, n := range []int{9, 10, 255, 256, 257, 264, 70000} {
		mustNotFrame(t, 1, make([][]byte, n), api.ErrSize)
	}
}

// TestLongFrames: P4.1, all bytes of a frame count for its size, in whichever part they are; and back by P4.2.
func TestLongFrames(t *testing.T) {
	for n := 1; n <= 8; n++ {
		parts := full(n, api.MaxTerm)
		b := framed(t, 2, parts)
		if len(b) != api.MaxTerm {
			t.Fatalf("the frame of %d parts has %d bytes, want %d", n, len(b), api.MaxTerm)
		}
		if tag, got, e := Parse(b); e != api.OK || tag != 2 || !sample.SameParts(got, parts) {
			t.Errorf("the longest frame of %d parts is parsed as %d, %d parts, %d", n, tag, len(got), e)
		}
		for i := range parts {
			more := slices.Clone(parts)
			more[i] = append(slices.Clone(more[i]), 0)
			mustNotFrame(t, 2, more, api.ErrSize)
		}
	}
	huge := make([]byte, 1<<26)
	mustNotFrame(t, 2, [][]byte{huge}, api.ErrSize)
	mustNotFrame(t, 2, slices.Repeat([][]byte{huge}, 8), api.ErrSize)
	mustNotFrame(t, 2, slices.Repeat([][]byte{huge}, 64), api.ErrSize)
}

// TestParseEnds: P4.2, ErrShort ahead of each byte that must be there, and ErrForm behind the last one.
func TestParseEnds(t *testing.T) {
	for _, w := range frames() {
		if len(w.frame) > 300 {
			continue
		}
		for n := range w.frame {
			mustNotParse(t, w.frame[:n], api.ErrShort)
		}
		for _, more := range [][]byte{{0}, {1}, {0, 0, 0, 0}, w.frame, make([]byte, 300)} {
			mustNotParse(t, slices.Concat(w.frame, more), api.ErrForm)
		}
	}
}

// TestParseTags: P4.2, each first byte that there is: a wrong one is told ahead of all that is wrong behind it.
func TestParseTags(t *testing.T) {
	for c := range 256 {
		tag := byte(c)
		if c >= 1 && c <= 9 {
			if got, parts, e := Parse([]byte{tag, 0}); got != c || len(parts) > 0 || e != api.OK {
				t.Errorf("Parse(%d 0) = %d %v %d", c, got, parts, e)
			}
			mustNotParse(t, []byte{tag}, api.ErrShort)
			continue
		}
		for _, b := range [][]byte{{tag}, {tag, 0}, {tag, 9}, {tag, 1}, {tag, 0, 5}, {tag, 1, 0, 0, 0, 2, 9}} {
			mustNotParse(t, b, api.ErrRange)
		}
	}
}

// TestParseCounts: P4.2, each second byte that there is: one that is too great is told ahead of what is wrong behind it.
func TestParseCounts(t *testing.T) {
	for c := range 256 {
		rest := make([]byte, 4*c)
		b := append([]byte{1, byte(c)}, rest...)
		if c <= 8 {
			if tag, parts, e := Parse(b); tag != 1 || len(parts) != c || e != api.OK {
				t.Errorf("Parse(1, %d empty parts) = %d %v %d", c, tag, parts, e)
			}
			continue
		}
		mustNotParse(t, b, api.ErrSize)
		mustNotParse(t, b[:2], api.ErrSize)
		mustNotParse(t, b[:7], api.ErrSize)
		mustNotParse(t, append(b, 5), api.ErrSize)
	}
}

// TestParseLengths: P4.2, all four bytes of a length count, in each part.
func TestParseLengths(t *testing.T) {
	for place := range 4 {
		for _, ahead := range [][]byte{{1, 1}, {1, 2, 0, 0, 0, 1, 7}} {
			b := append(slices.Clone(ahead), 0, 0, 0, 0)
			b[len(ahead)+place] = 1
			length := 1 << (8 * (3 - place))
			mustNotParse(t, b, api.ErrShort)
			if length > 1<<16 {
				mustNotParse(t, append(b, make([]byte, 1<<20)...), api.ErrShort)
				continue
			}
			whole := append(b, sample.Bytes(length)...)
			mustNotParse(t, whole[:len(whole)-1], api.ErrShort)
			_, parts, e := Parse(whole)
			if e != api.OK || !bytes.Equal(parts[len(parts)-1], sample.Bytes(length)) {
				t.Errorf("a part of %d bytes is parsed as %d parts, %d", length, len(parts), e)
			}
			mustNotParse(t, append(whole, 0), api.ErrForm)
		}
	}
	for _, c := range []byte{127, 128, 255} {
		mustNotParse(t, []byte{1, 1, c, 255, 255, 255}, api.ErrShort)
		mustNotParse(t, []byte{1, 1, c, 255, 255, 255, 1, 2, 3}, api.ErrShort)
	}
}

// TestParseTooLong: P4.2, ErrSize for more than MaxTerm bytes, ahead of all that is wrong in them.
func TestParseTooLong(t *testing.T) {
	b := make([]byte, api.MaxTerm+1)
	for _, head := range [][]byte{{0}, {1, 0}, {1, 9}, {1, 1, 255, 255, 255, 255}, {1, 1, 0, 255, 255, 251}, {1, 1, 0, 255, 255, 250}} {
		clear(b)
		copy(b, head)
		mustNotParse(t, b, api.ErrSize)
	}
	mustNotParse(t, b[:api.MaxTerm+1:api.MaxTerm+1], api.ErrSize)
	if _, parts, e := Parse(b[:api.MaxTerm]); e != api.OK || len(parts) != 1 {
		t.Errorf("MaxTerm bytes are parsed as %d parts, %d", len(parts), e)
	}
	clear(b)
	copy(b, []byte{1, 0})
	mustNotParse(t, b[:api.MaxTerm], api.ErrForm)
	mustNotParse(t, make([]byte, api.MaxTerm), api.ErrRange)
}

// TestOnlyOneWay: P4.2, of all lists of up to 11 bytes 0 to 2 just those are parsed that P4.1 writes: of no parts, of one of up to two bytes, of two with up to one byte in all.
func TestOnlyOneWay(t *testing.T) {
	l := [][]byte{nil}
	told := 0
	for n := 0; n < len(l); n++ {
		b := l[n]
		for c := byte(0); c <= 2 && len(b) < 11; c++ {
			l = append(l, append(slices.Clone(b), c))
		}
		tag, parts, e := Parse(b)
		if e != api.OK {
			mustNotParse(t, b, e)
			continue
		}
		told++
		if again := framed(t, tag, parts); !bytes.Equal(again, b) {
			t.Fatalf("Parse(%v) = %d %v, whose frame is %v", b, tag, parts, again)
		}
	}
	if want := 2 * (1 + (1 + 3 + 9) + (1 + 3 + 3)); told != want {
		t.Errorf("%d of %d lists are frames, want %d", told, len(l), want)
	}
}

// TestNoTwoAlike: what comes of P4.1: open digests are the same just if tag and parts are; hashed ones too, of those here.
func TestNoTwoAlike(t *testing.T) {
	pieces := [][]byte{nil, {0}, {1}, {0, 0}, {0, 0, 0, 1}, {1, 0, 0, 0, 0}, {0, 0, 0, 0, 0, 0, 0, 0}}
	lists := [][][]byte{nil}
	for n := 0; n < len(lists); n++ {
		if len(lists[n]) < 3 {
			for _, p := range pieces {
				lists = append(lists, append(slices.Clone(lists[n]), p))
			}
		}
	}
	for _, mode := range []int{api.Hashed, api.Open} {
		seen := map[string]int{}
		for i, parts := range lists {
			for tag := 1; tag <= 9; tag++ {
				d, e := Digest(mode, tag, parts)
				if was, ok := seen[string(d)]; ok || e != api.OK {
					t.Fatalf("Digest(%d, %d, %v) = %v %d, as of list %d", mode, tag, parts, d, e, was)
				}
				seen[string(d)] = i
			}
		}
	}
}

// TestDigests: P4.3, in both modes.
func TestDigests(t *testing.T) {
	for _, w := range frames() {
		if got, e := Digest(api.Open, w.tag, w.parts); e != api.OK || !bytes.Equal(got, w.frame) {
			t.Errorf("Digest(2, %d, %v) = %v %d, want %v 0", w.tag, w.parts, got, e, w.frame)
		}
		want := sha256.Sum256(w.frame)
		if got, e := Digest(api.Hashed, w.tag, w.parts); e != api.OK || !bytes.Equal(got, want[:]) {
			t.Errorf("Digest(1, %d, %v) = %v %d, want %v 0", w.tag, w.parts, got, e, want)
		}
	}
}

// TestDigestModes: P4.3, ErrKind ahead of all that Frame refuses.
func TestDigestModes(t *testing.T) {
	for _, mode := range sample.WrongModes() {
		for _, tag := range append([]int{1, 9}, wrongTags...) {
			for _, parts := range [][][]byte{nil, {{1}}, make([][]byte, 9), {make([]byte, api.MaxTerm)}} {
				if d, e := Digest(mode, tag, parts); e != api.ErrKind || len(d) > 0 {
					t.Errorf("Digest(%d, %d, %d parts) = %v %d, want none 2", mode, tag, len(parts), d, e)
				}
			}
		}
	}
}

// salted is a salt, which must be told.
func salted(t *testing.T, mode int, secret []byte, step, place int) []byte {
	t.Helper()
	s, e := Salt(mode, secret, step, place)
	if e != api.OK {
		t.Fatalf("Salt(%d, %v, %d, %d) = %d, want 0", mode, secret, step, place, e)
	}
	return s
}

// someNumbers for steps and places.
func someNumbers() []int {
	return []int{0, 1, 2, 255, 256, 0x0102030405060708, math.MaxInt, -1, -2, -256, math.MinInt}
}

// TestOpenSalts: P4.4, by the secret, the step and the place, all of them to be seen.
func TestOpenSalts(t *testing.T) {
	for _, c := range []struct {
		secret      []byte
		step, place int
		want        []byte
	}{
		{[]byte("s"), 1, 2, []byte{3, 3, 0, 0, 0, 1, 115, 0, 0, 0, 8, 0, 0, 0, 0, 0, 0, 0, 1, 0, 0, 0, 8, 0, 0, 0, 0, 0, 0, 0, 2}},
		{nil, -1, 0x0102030405060708, []byte{3, 3, 0, 0, 0, 0, 0, 0, 0, 8, 255, 255, 255, 255, 255, 255, 255, 255, 0, 0, 0, 8, 1, 2, 3, 4, 5, 6, 7, 8}},
		{[]byte{}, 256, math.MinInt, []byte{3, 3, 0, 0, 0, 0, 0, 0, 0, 8, 0, 0, 0, 0, 0, 0, 1, 0, 0, 0, 0, 8, 128, 0, 0, 0, 0, 0, 0, 0}},
	} {
		if got := salted(t, api.Open, c.secret, c.step, c.place); !bytes.Equal(got, c.want) {
			t.Errorf("Salt(2, %v, %d, %d) = %v, want %v", c.secret, c.step, c.place, got, c.want)
		}
	}
}

// TestSalts: P4.4, in both modes, for secrets of all lengths.
func TestSalts(t *testing.T) {
	for n := range 17 {
		secret := sample.Bytes(n)
		for _, step := range someNumbers() {
			for _, place := range someNumbers() {
				at := [][]byte{binary.BigEndian.AppendUint64(nil, uint64(step)), binary.BigEndian.AppendUint64(nil, uint64(place))}
				open := framed(t, 3, [][]byte{secret, at[0], at[1]})
				if got := salted(t, api.Open, secret, step, place); !bytes.Equal(got, open) {
					t.Errorf("Salt(2, %d bytes, %d, %d) = %v, want %v", n, step, place, got, open)
				}
				h := hmac.New(sha256.New, secret)
				h.Write(framed(t, 3, at))
				if got := salted(t, api.Hashed, secret, step, place); !bytes.Equal(got, h.Sum(nil)) {
					t.Errorf("Salt(1, %d bytes, %d, %d) = %v, want %v", n, step, place, got, h.Sum(nil))
				}
			}
		}
	}
}

// TestSaltsWithoutSecret: P4.4, no secret, as nil or not.
func TestSaltsWithoutSecret(t *testing.T) {
	for _, mode := range []int{api.Hashed, api.Open} {
		if !bytes.Equal(salted(t, mode, nil, 1, 2), salted(t, mode, []byte{}, 1, 2)) {
			t.Errorf("nil is not as good as an empty secret in mode %d", mode)
		}
	}
}

// TestSaltRefuses: P4.4, ErrKind, and behind it ErrSize, in both modes.
func TestSaltRefuses(t *testing.T) {
	refused := func(mode, n int, want api.Errno) {
		t.Helper()
		for _, at := range someNumbers() {
			if s, e := Salt(mode, sample.Bytes(n), at, -at); e != want || len(s) > 0 {
				t.Errorf("Salt(%d, %d bytes, %d, %d) = %v %d, want none %d", mode, n, at, -at, s, e, want)
			}
		}
	}
	for _, mode := range sample.WrongModes() {
		for _, n := range []int{0, 1, 16, 17, 1000} {
			refused(mode, n, api.ErrKind)
		}
	}
	for _, n := range []int{17, 18, 32, 64, 65, 1000} {
		refused(api.Hashed, n, api.ErrSize)
		refused(api.Open, n, api.ErrSize)
	}
}

// TestInputsStay: what is handed in stays as it is, spare room too, and nothing is kept from call to call.
func TestInputsStay(t *testing.T) {
	room := sample.Bytes(200)
	before := slices.Clone(room)
	list := [][]byte{room[:3], room[3:3], room[10:20], room[50:60]}
	was := slices.Clone(list)
	whole := framed(t, 1, list[:3])
	for _, mode := range []int{api.Hashed, api.Open} {
		first, _ := Digest(mode, 1, list[:3])
		salt := salted(t, mode, room[:7], 1, 2)
		Digest(mode, 2, list)
		salted(t, mode, room[1:9], 2, 1)
		again, _ := Digest(mode, 1, list[:3])
		if !bytes.Equal(first, again) || !bytes.Equal(salt, salted(t, mode, room[:7], 1, 2)) {
			t.Errorf("in mode %d the same is told in two ways", mode)
		}
	}
	if !bytes.Equal(room, before) || !sample.SameParts(list, was) || len(list[1]) != 0 {
		t.Errorf("what was handed in is changed: %v %v", room, list)
	}
	copy(room, whole)
	Parse(room[:len(whole)])
	Parse(room[:len(whole)-1])
	if !bytes.Equal(room[:len(whole)], whole) || !bytes.Equal(room[len(whole):], before[len(whole):]) {
		t.Errorf("bytes that were handed in are changed: %v", room)
	}
}

// TestAnswersStayApart: answers share no memory, spare room neither, with what is handed in or with each other.
func TestAnswersStayApart(t *testing.T) {
	secret := sample.Bytes(16)
	part := sample.Bytes(9)
	makers := map[string]func() []byte{
		"Frame":  func() []byte { return framed(t, 1, [][]byte{part}) },
		"hashed": func() []byte { b, _ := Digest(api.Hashed, 1, [][]byte{part}); return b },
		"open":   func() []byte { b, _ := Digest(api.Open, 1, [][]byte{part}); return b },
		"macked": func() []byte { return salted(t, api.Hashed, secret, 1, 2) },
		"salted": func() []byte { return salted(t, api.Open, secret, 1, 2) },
	}
	for name, of := range makers {
		one, two := of(), of()
		kept := slices.Clone(two)
		sample.Spoil(one)
		if !bytes.Equal(two, kept) || !bytes.Equal(of(), kept) {
			t.Errorf("an answer of %s shares its bytes", name)
		}
	}
}

// TestPartsStayApart: parts that are parsed share no memory, spare room neither, with the frame or with each other.
func TestPartsStayApart(t *testing.T) {
	want := [][]byte{{1, 2, 3}, {}, {4}, sample.Bytes(33), {}}
	b := framed(t, 1, want)
	whole := slices.Clone(b)
	_, one, _ := Parse(b)
	_, two, _ := Parse(b)
	for i := range one {
		sample.Spoil(one[i])
		for j := i + 1; j < len(one); j++ {
			if !bytes.Equal(one[j], want[j]) {
				t.Errorf("parts %d and %d share their bytes", i, j)
			}
		}
	}
	if !bytes.Equal(b, whole) || !sample.SameParts(two, want) {
		t.Errorf("parts share their bytes with the frame %v or with those of another call %v", b, two)
	}
	sample.Spoil(b)
	clear(one[:cap(one)])
	if !sample.SameParts(two, want) {
		t.Errorf("parts share their bytes with the frame: %v", two)
	}
}

package sum

import (
	"bytes"
	"crypto/hmac"
	"crypto/sha256"
	"encoding"
	"encoding/binary"
	"encoding/hex"
	"hash/crc32"
	"math"
	"slices"
	"strings"
	"testing"

	"chirograph/api"
	"chirograph/sample"
)

const most = 1 << 60

// with is the stream behind s and b, which must be told.
func with(t *testing.T, s api.Stream, b []byte) api.Stream {
	t.Helper()
	s, e := Add(s, b)
	if e != api.OK {
		t.Fatalf("Add of %d bytes = %d, want 0", len(b), e)
	}
	return s
}

// ended is a stream's sum, which must be told.
func ended(t *testing.T, s api.Stream) [32]byte {
	t.Helper()
	h, e := End(s)
	if e != api.OK {
		t.Fatalf("End of a stream of %d bytes = %d, want 0", s.Len, e)
	}
	return h
}

// mustRefuse to add b to s.
func mustRefuse(t *testing.T, s api.Stream, b []byte, want api.Errno) {
	t.Helper()
	if got, e := Add(s, b); e != want || got != (api.Stream{}) {
		t.Errorf("Add(Len %d, N %d, Held %v; %d bytes) = %+v %d, want none %d", s.Len, s.N, s.Held, len(b), got, e, want)
	}
}

// library begins the marshalled state of the library's SHA-256. Behind it stand H, what is held with noughts behind it, and the number of bytes.
const library = "sha\x03"

// libraryStream is the stream of b as the library keeps it.
func libraryStream(t *testing.T, b []byte) api.Stream {
	t.Helper()
	d := sha256.New()
	d.Write(b)
	m, err := d.(encoding.BinaryMarshaler).MarshalBinary()
	if err != nil || string(m[:4]) != library || len(m) != 108 {
		t.Fatal("the library keeps its state in another way", err, m)
	}
	s := api.Stream{N: len(b) % 64, Len: int(binary.BigEndian.Uint64(m[100:]))}
	for i := range s.H {
		s.H[i] = binary.BigEndian.Uint32(m[4+4*i:])
	}
	copy(s.Held[:], m[36:100])
	return s
}

// libraryEnd is how the library ends a stream.
func libraryEnd(t *testing.T, s api.Stream) [32]byte {
	t.Helper()
	m := []byte(library)
	for _, w := range s.H {
		m = binary.BigEndian.AppendUint32(m, w)
	}
	m = append(m, s.Held[:]...)
	m = binary.BigEndian.AppendUint64(m, uint64(s.Len))
	d := sha256.New()
	if err := d.(encoding.BinaryUnmarshaler).UnmarshalBinary(m); err != nil {
		t.Fatal(err)
	}
	return [32]byte(d.Sum(nil))
}

// long is a stream of n bytes, the ones behind the last whole block from sample; that its H is what bytes make nobody asks.
func long(n int) api.Stream {
	s := api.Stream{H: [8]uint32{1, 2, 3, 1 << 31, math.MaxUint32, 0, 7, 0x12345678}, N: n % 64, Len: n}
	copy(s.Held[:], sample.Bytes(s.N))
	return s
}

// TestBegin: P3.1, no bytes.
func TestBegin(t *testing.T) {
	want := api.Stream{H: [8]uint32{
		0x6a09e667, 0xbb67ae85, 0x3c6ef372, 0xa54ff53a, 0x510e527f, 0x9b05688c, 0x1f83d9ab, 0x5be0cd19,
	}}
	if s := Begin(); s != want {
		t.Errorf("Begin() = %+v, want %+v", s, want)
	}
	if s := libraryStream(t, nil); s != want {
		t.Errorf("the library begins with %+v, want %+v", s, want)
	}
}

// TestStreams: P3.1 and P3.2, each field of a stream, at all lengths around whole blocks.
func TestStreams(t *testing.T) {
	b := sample.Bytes(300)
	for n := range len(b) + 1 {
		s := with(t, Begin(), b[:n])
		if want := libraryStream(t, b[:n]); s != want {
			t.Fatalf("the stream of %d bytes = %+v, want %+v", n, s, want)
		}
	}
}

// TestStreamOfABlock: P3.1, a whole block is not held: no byte of it stays behind.
func TestStreamOfABlock(t *testing.T) {
	s := with(t, with(t, Begin(), sample.Bytes(63)), sample.Bytes(1))
	if s.N != 0 || s.Len != 64 || s.Held != [64]byte{} || s.H == Begin().H {
		t.Errorf("the stream of a block = %+v", s)
	}
	s = with(t, s, []byte{9})
	if s.N != 1 || s.Len != 65 || s.Held != [64]byte{9} {
		t.Errorf("the stream of a block and a 9 = %+v", s)
	}
}

// TestParts: P3.2, bytes may come in any two parts, and one by one.
func TestParts(t *testing.T) {
	for _, n := range []int{0, 1, 63, 64, 65, 127, 128, 129, 200} {
		b := sample.Bytes(n)
		want := libraryStream(t, b)
		for k := range n + 1 {
			if s := with(t, with(t, Begin(), b[:k]), b[k:]); s != want {
				t.Fatalf("%d bytes and %d = %+v, want %+v", k, n-k, s, want)
			}
		}
		s := Begin()
		for i := range b {
			s = with(t, s, b[i:i+1])
		}
		if s != want {
			t.Fatalf("%d bytes one by one = %+v, want %+v", n, s, want)
		}
	}
}

// TestAddNothing: P3.2, the stream stays as it is.
func TestAddNothing(t *testing.T) {
	for _, s := range []api.Stream{Begin(), long(5), long(64), long(most - 1), long(most), {}} {
		for _, b := range [][]byte{nil, {}} {
			if got := with(t, s, b); got != s {
				t.Errorf("nothing behind %+v = %+v", s, got)
			}
		}
	}
}

// TestNoughtsAreBytes: P3.1, noughts that came are held like other bytes, and told from those behind them by N alone.
func TestNoughtsAreBytes(t *testing.T) {
	seen := map[[32]byte]int{}
	for n := range 130 {
		b := make([]byte, n)
		s := with(t, Begin(), b)
		if s != libraryStream(t, b) || s.Held != [64]byte{} {
			t.Fatalf("the stream of %d noughts = %+v", n, s)
		}
		h := ended(t, s)
		if was, ok := seen[h]; ok {
			t.Fatalf("the sums of %d and of %d noughts are the same", was, n)
		}
		seen[h] = n
	}
}

// wrongStreams may not be (P3.2).
func wrongStreams() []api.Stream {
	l := []api.Stream{
		{Len: -1}, {Len: -1, N: -1}, {Len: -1, N: 63}, {Len: -64}, {Len: -65, N: -1}, {Len: -63, N: 1},
		{Len: math.MinInt}, {Len: math.MinInt + 1, N: 1}, {Len: math.MinInt + 1, N: -63},
		{Len: most + 1, N: 1}, {Len: most + 64}, {Len: 1 << 61}, {Len: 1 << 62}, {Len: math.MaxInt, N: 63},
		{N: 1}, {N: -1}, {N: 64}, {N: -64}, {N: math.MinInt}, {N: math.MaxInt},
		{Len: 1}, {Len: 1, N: 2}, {Len: 1, N: -63}, {Len: 1, N: 65}, {Len: 63, N: 62}, {Len: 63, N: -1},
		{Len: 64, N: 64}, {Len: 64, N: 1}, {Len: 65, N: 65}, {Len: 128, N: 64}, {Len: most, N: 64}, {Len: most - 1},
	}
	for n := range 64 {
		for place := n; place < 64; place++ {
			s := long(64 + n)
			s.Held[place] = byte(1 << (place % 8))
			l = append(l, s)
		}
	}
	return l
}

// TestWrongStreams: P3.2 and P3.3, ErrState.
func TestWrongStreams(t *testing.T) {
	for _, s := range wrongStreams() {
		mustRefuse(t, s, nil, api.ErrState)
		mustRefuse(t, s, []byte{1}, api.ErrState)
		mustRefuse(t, s, sample.Bytes(200), api.ErrState)
		if h, e := End(s); e != api.ErrState || h != [32]byte{} {
			t.Errorf("End(%+v) = %v %d, want none 11", s, h, e)
		}
	}
}

// TestAnyWords: P3.2 and P3.3, it isn't asked whether bytes make H, nor whether it is that of Begin where there is no block yet.
func TestAnyWords(t *testing.T) {
	for _, n := range []int{0, 1, 55, 56, 63, 64, 1000} {
		s := long(n)
		if h := ended(t, s); h != libraryEnd(t, s) {
			t.Errorf("End(%+v) = %v, want %v", s, h, libraryEnd(t, s))
		}
		if h := ended(t, with(t, s, nil)); h != libraryEnd(t, s) {
			t.Errorf("End behind nothing added to %+v = %v, want %v", s, h, libraryEnd(t, s))
		}
	}
}

// TestTooMany: P3.2, ErrSize beyond 2^60 bytes in all, and ErrState ahead of it.
func TestTooMany(t *testing.T) {
	for _, c := range []struct {
		have, more int
		want       api.Errno
	}{
		{most, 0, api.OK}, {most, 1, api.ErrSize}, {most, 64, api.ErrSize}, {most, 500, api.ErrSize},
		{most - 1, 0, api.OK}, {most - 1, 1, api.OK}, {most - 1, 2, api.ErrSize}, {most - 1, 65, api.ErrSize},
		{most - 64, 64, api.OK}, {most - 64, 65, api.ErrSize}, {most - 65, 65, api.OK}, {most - 65, 66, api.ErrSize},
		{most - 500, 499, api.OK}, {most - 500, 500, api.OK}, {most - 500, 501, api.ErrSize},
	} {
		s, b := long(c.have), sample.Bytes(c.more)
		if c.want != api.OK {
			mustRefuse(t, s, b, c.want)
			s.Held[s.N] = 1
			mustRefuse(t, s, b, api.ErrState)
			continue
		}
		if got := with(t, s, b); got.Len != c.have+c.more || got.N != got.Len%64 {
			t.Errorf("%d bytes behind %d = %+v", c.more, c.have, got)
		}
	}
}

// TestLongLengths: P3.3, all eight bytes of the number of bits count.
func TestLongLengths(t *testing.T) {
	seen := map[[32]byte]int{}
	for bit := range 61 {
		for _, n := range []int{1<<bit - 1, 1 << bit} {
			s := long(n)
			h := ended(t, s)
			if want := libraryEnd(t, s); h != want {
				t.Errorf("End of %d bytes = %v, want %v", n, h, want)
			}
			if was, ok := seen[h]; ok && was != n {
				t.Errorf("%d and %d bytes end alike", was, n)
			}
			seen[h] = n
		}
	}
}

// TestSums: P3.3 and P3.4, sums that are told elsewhere (FIPS 180-4's examples).
func TestSums(t *testing.T) {
	for _, c := range []struct{ text, want string }{
		{"", "e3b0c44298fc1c149afbf4c8996fb92427ae41e4649b934ca495991b7852b855"},
		{"abc", "ba7816bf8f01cfea414140de5dae2223b00361a396177a9cb410ff61f20015ad"},
		{"abcdbcdecdefdefgefghfghighijhijkijkljklmklmnlmnomnopnopq", "248d6a61d20638b8e5c026930c3e6039a33ce45964ff2167f6ecedd419db06c1"},
		{strings.Repeat("a", 1000000), "cdc76e5c9914fb9281a1c7e284d73e67f1809a48a497200e046d39ccc7112cd0"},
	} {
		b := []byte(c.text)
		direct, streamed := Sum(b), ended(t, with(t, Begin(), b))
		if got := hex.EncodeToString(direct[:]); got != c.want {
			t.Errorf("Sum of %d bytes = %s, want %s", len(b), got, c.want)
		}
		if streamed != direct {
			t.Errorf("the stream of %d bytes ends with %x, want %s", len(b), streamed, c.want)
		}
	}
	if Sum(nil) != Sum([]byte{}) {
		t.Error("no bytes have two sums")
	}
}

// TestSumsOfAllLengths: P3.3 and P3.4, where the last block is full, and where it is too full for the number of bits.
func TestSumsOfAllLengths(t *testing.T) {
	b := sample.Bytes(520)
	for n := range len(b) + 1 {
		want := sha256.Sum256(b[:n])
		if got := Sum(b[:n]); got != want {
			t.Fatalf("Sum of %d bytes = %x, want %x", n, got, want)
		}
		if got := ended(t, with(t, Begin(), b[:n])); got != want {
			t.Fatalf("the stream of %d bytes ends with %x, want %x", n, got, want)
		}
	}
}

// TestSumsOfBits: P3.4, each bit of a block counts.
func TestSumsOfBits(t *testing.T) {
	for bit := range 8 * 64 {
		b := make([]byte, 64)
		b[bit/8] = 1 << (bit % 8)
		if got, want := Sum(b), sha256.Sum256(b); got != want {
			t.Fatalf("Sum of bit %d = %x, want %x", bit, got, want)
		}
	}
}

// TestMacs: P3.5, what is told elsewhere (RFC 4231).
func TestMacs(t *testing.T) {
	of := func(c byte, n int) string { return strings.Repeat(string([]byte{c}), n) }
	for _, c := range []struct{ key, text, want string }{
		{of(0x0b, 20), "Hi There", "b0344c61d8db38535ca8afceaf0bf12b881dc200c9833da726e9376c2e32cff7"},
		{"Jefe", "what do ya want for nothing?", "5bdcc146bf60754e6a042426089575c75a003f089d2739839dec58b964ec3843"},
		{of(0xaa, 20), of(0xdd, 50), "773ea91e36800e46854db8ebd09181a72959098b3ef8c122d9635514ced565fe"},
		{of(0xaa, 131), "Test Using Larger Than Block-Size Key - Hash Key First", "60e431591ee0b67f0d8a26aacbf5b77f8e0bc6213728c5140546040f0ee37f54"},
		{"", "", "b613679a0814d9ec772f95d778c35fc5ff1697c493715653c6c712144292c5ad"},
	} {
		got := Mac([]byte(c.key), []byte(c.text))
		if hex.EncodeToString(got[:]) != c.want {
			t.Errorf("Mac(%q, %q) = %x, want %s", c.key, c.text, got, c.want)
		}
	}
}

// TestMacsOfAllKeys: P3.5, a key of one block goes in as it is, a longer one by its sum.
func TestMacsOfAllKeys(t *testing.T) {
	all := sample.Bytes(200)
	for k := range 140 {
		for _, n := range []int{0, 1, 32, 55, 56, 63, 64, 65, 128, 200} {
			key, b := all[:k], all[200-n:]
			h := hmac.New(sha256.New, key)
			h.Write(b)
			if got, want := Mac(key, b), [32]byte(h.Sum(nil)); got != want {
				t.Fatalf("Mac by %d bytes of %d bytes = %x, want %x", k, n, got, want)
			}
		}
	}
	key := Sum(all[:65])
	if Mac(all[:65], all) != Mac(key[:], all) {
		t.Error("a long key is not as good as its sum")
	}
	if key = Sum(all[:64]); Mac(all[:64], all) == Mac(key[:], all) {
		t.Error("a key of one block is summed")
	}
}

// TestMacWithoutLists: P3.5, no key and no bytes, as nil or not.
func TestMacWithoutLists(t *testing.T) {
	none := []byte{}
	if Mac(nil, nil) != Mac(none, none) || Mac(nil, []byte{1}) != Mac(none, []byte{1}) || Mac([]byte{1}, nil) != Mac([]byte{1}, none) {
		t.Error("nil is not as good as an empty list")
	}
	if Mac([]byte{1}, nil) == Mac(nil, []byte{1}) {
		t.Error("key and bytes are alike")
	}
}

// TestCrcs: P3.6, short sums that are told elsewhere (RFC 3720).
func TestCrcs(t *testing.T) {
	var up, down []byte
	for i := range 32 {
		up, down = append(up, byte(i)), append(down, byte(31-i))
	}
	for _, c := range []struct {
		b    []byte
		want uint32
	}{
		{nil, 0}, {[]byte{}, 0}, {[]byte("123456789"), 0xe3069283},
		{make([]byte, 32), 0x8a9136aa}, {bytes.Repeat([]byte{255}, 32), 0x62a8ab43},
		{up, 0x46dd794e}, {down, 0x113fdb5c},
	} {
		if got := Crc(c.b); got != c.want {
			t.Errorf("Crc(%v) = %08x, want %08x", c.b, got, c.want)
		}
	}
}

// TestCrcsOfAllBytes: P3.6, each byte by itself, and lists of all lengths.
func TestCrcsOfAllBytes(t *testing.T) {
	table := crc32.MakeTable(crc32.Castagnoli)
	for c := range 256 {
		b := []byte{byte(c)}
		if got, want := Crc(b), crc32.Checksum(b, table); got != want {
			t.Errorf("Crc(%v) = %08x, want %08x", b, got, want)
		}
	}
	b := sample.Bytes(320)
	for n := range len(b) + 1 {
		if got, want := Crc(b[:n]), crc32.Checksum(b[:n], table); got != want {
			t.Errorf("Crc of %d bytes = %08x, want %08x", n, got, want)
		}
	}
}

// TestNothingIsKept: lists stay as they are, their spare room too, and each call answers what it answered ahead of others.
func TestNothingIsKept(t *testing.T) {
	room := sample.Bytes(400)
	before := slices.Clone(room)
	for _, n := range []int{0, 1, 55, 63, 64, 65, 130} {
		key, b := room[:n], room[200:200+n]
		s := with(t, Begin(), b)
		h, m, c := ended(t, s), Mac(key, b), Crc(b)
		with(t, s, key)
		Mac(b, key)
		if ended(t, s) != h || Sum(b) != h || Mac(key, b) != m || Crc(b) != c || with(t, Begin(), b) != s {
			t.Errorf("%d bytes are told of in two ways", n)
		}
		if !bytes.Equal(room, before) {
			t.Fatalf("lists of %d bytes are changed", n)
		}
	}
}

// TestStreamsStayApart: a stream is its own, whatever becomes of the bytes that were added or of another stream.
func TestStreamsStayApart(t *testing.T) {
	b := sample.Bytes(70)
	s := with(t, Begin(), b)
	want := s
	clear(b)
	other := s
	other.Held[0]++
	if s != want || s != libraryStream(t, sample.Bytes(70)) {
		t.Error("a stream hangs on lists outside it")
	}
}

package numeral

import (
	"bytes"
	"math"
	"testing"
)

// TestBytes: numbers in their lowest bytes, behind what is there, and back.
func TestBytes(t *testing.T) {
	for _, c := range []struct {
		n     uint64
		width int
		want  []byte
		back  uint64
	}{
		{0, 0, nil, 0}, {7, 0, nil, 0}, {7, -1, nil, 0}, {7, math.MinInt, nil, 0},
		{0, 1, []byte{0}, 0}, {255, 1, []byte{255}, 255}, {256 + 3, 1, []byte{3}, 3},
		{0x1234, 2, []byte{0x12, 0x34}, 0x1234}, {0x123456, 2, []byte{0x34, 0x56}, 0x3456},
		{1, 4, []byte{0, 0, 0, 1}, 1}, {0x89abcdef, 4, []byte{0x89, 0xab, 0xcd, 0xef}, 0x89abcdef},
		{0x0123456789abcdef, 8, []byte{1, 0x23, 0x45, 0x67, 0x89, 0xab, 0xcd, 0xef}, 0x0123456789abcdef},
		{math.MaxUint64, 8, bytes.Repeat([]byte{255}, 8), math.MaxUint64},
		{1 << 63, 9, []byte{0, 128, 0, 0, 0, 0, 0, 0, 0}, 1 << 63},
	} {
		if got := Append([]byte{9}, c.n, c.width); !bytes.Equal(got, append([]byte{9}, c.want...)) {
			t.Errorf("Append(9; %d, %d) = %v, want %v behind the 9", c.n, c.width, got, c.want)
		}
		if got := Of(c.want); got != c.back {
			t.Errorf("Of(%v) = %d, want %d", c.want, got, c.back)
		}
	}
}

// TestLastEight: of more bytes than a number has the last ones count.
func TestLastEight(t *testing.T) {
	if got := Of([]byte{1, 2, 3, 0, 0, 0, 0, 0, 0, 4}); got != 3<<56+4 {
		t.Errorf("Of ten bytes = %d, want %d", got, uint64(3<<56+4))
	}
}

// Package sample: values and bytes for the tests of all layers, in short. The program itself does not use it.
package sample

import (
	"bytes"
	"math"
	"slices"
	"strings"

	"chirograph/api"
)

// Null is the null.
func Null() api.Value { return api.Value{} }

// Bool with i as its Int, 0 or 1 or a wrong one.
func Bool(i int) api.Value { return api.Value{Kind: api.Bool, Int: i} }

// Int is a number.
func Int(i int) api.Value { return api.Value{Kind: api.Int, Int: i} }

// Real of a float.
func Real(f float64) api.Value { return Bits(math.Float64bits(f)) }

// Bits of a real, which need not be one.
func Bits(b uint64) api.Value { return api.Value{Kind: api.Real, Bits: b} }

// Text is a text.
func Text(s string) api.Value { return api.Value{Kind: api.Text, Text: s} }

// Long is a string of n bytes.
func Long(n int) string { return strings.Repeat("x", n) }

// Bytes are n bytes: each block of 64 another one, none of them 0.
func Bytes(n int) []byte {
	b := make([]byte, n)
	for i := range b {
		b[i] = byte(i*7+i/64)%255 + 1
	}
	return b
}

// WrongModes of digests there are not, some of them a mode by their lowest byte.
func WrongModes() []int {
	return []int{0, -1, -2, 3, 4, 257, 258, 1<<32 + 1, math.MinInt, math.MinInt + 1, math.MaxInt}
}

// SameParts tells whether two lists have the same parts; nil is as good as none.
func SameParts(a, b [][]byte) bool {
	return slices.EqualFunc(a, b, bytes.Equal)
}

// Spoil bytes, with their spare room, so that others that share their memory are seen to change.
func Spoil(b []byte) {
	for i := range b[:cap(b)] {
		b[:cap(b)][i] = 77
	}
}

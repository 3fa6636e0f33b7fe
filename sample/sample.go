// Package sample: values, tokens, expressions, columns, trees, tables, queries and bytes for the tests of all layers, in short. The program itself does not use it.
package sample

import (
	"bytes"
	"math"
	"slices"
	"strings"

	"chirograph/api"
)

// Null is the null.
func Null() api.Value { return api.Value{} }

// Bool with i as its Int, 0 or 1 or a wrong one.
func Bool(i int) api.Value { return api.Value{Kind: api.Bool, Int: i} }

// Int is a number.
func Int(i int) api.Value { return api.Value{Kind: api.Int, Int: i} }

// Real of a float.
func Real(f float64) api.Value { return Bits(math.Float64bits(f)) }

// Bits of a real, which need not be one.
func Bits(b uint64) api.Value { return api.Value{Kind: api.Real, Bits: b} }

// Text is a text.
func Text(s string) api.Value { return api.Value{Kind: api.Text, Text: s} }

// Name is a token, as all up to Sign.
func Name(s string) api.Token { return api.Token{Kind: api.Name, Text: s} }

// Word is a word.
func Word(s string) api.Token { return api.Token{Kind: api.Word, Text: s} }

// Number need not be one that may be.
func Number(i int) api.Token { return api.Token{Kind: api.Number, Int: i} }

// Quote of a text.
func Quote(s string) api.Token { return api.Token{Kind: api.Quote, Text: s} }

// Hex is a real by its bits.
func Hex(b uint64) api.Token { return api.Token{Kind: api.Hex, Bits: b} }

// Sign is a sign.
func Sign(s string) api.Token { return api.Token{Kind: api.Sign, Text: s} }

// Lit is an expression, as are Col and Op.
func Lit(v api.Value) api.Expr { return api.Expr{Op: api.Lit, Value: v} }

// Col of a name, which need not be one.
func Col(name string) api.Expr { return api.Expr{Op: api.Col, Name: name} }

// Op on parts, of which there need not be as many as it has.
func Op(op int, parts ...api.Expr) api.Expr { return api.Expr{Op: op, Args: parts} }

// OnOne: all operations on one part.
func OnOne() []int { return []int{api.Neg, api.Not, api.IsNull, api.Length} }

// OnTwo: all operations on two parts.
func OnTwo() []int {
	return []int{
		api.Add, api.Sub, api.Mul, api.Div, api.Eq, api.Ne, api.Lt, api.Le, api.Gt, api.Ge,
		api.And, api.Or, api.Join, api.Coalesce,
	}
}

// PartsOf an operation, as P8.1 says.
func PartsOf(op int) int {
	switch {
	case slices.Contains(OnTwo(), op):
		return 2
	case slices.Contains(OnOne(), op):
		return 1
	}
	return 0
}

// Column that may be null.
func Column(name string, kind int) api.Column {
	return api.Column{Name: name, Kind: kind, Null: true}
}

// Filled is a column that may not be null.
func Filled(name string, kind int) api.Column {
	return api.Column{Name: name, Kind: kind}
}

// Long is a string of n bytes.
func Long(n int) string { return strings.Repeat("x", n) }

// Bytes are n bytes: each block of 64 another one, none of them 0.
func Bytes(n int) []byte {
	b := make([]byte, n)
	for i := range b {
		b[i] = byte(i*7+i/64)%255 + 1
	}
	return b
}

// Modes of digests that there are.
func Modes() []int {
	return []int{api.Hashed, api.Open}
}

// WrongModes of digests there are not, some of them a mode by their lowest byte.
func WrongModes() []int {
	return []int{0, -1, -2, 3, 4, 257, 258, 1<<32 + 1, math.MinInt, math.MinInt + 1, math.MaxInt}
}

// WrongPlaces that a list of n has not, some of them a place by their lowest bytes.
func WrongPlaces(n int) []int {
	return []int{-1, -2, -n - 1, n, n + 1, 2 * n, n << 8, n << 32, math.MinInt, math.MinInt + 1, math.MaxInt}
}

// SameParts tells whether two lists have the same parts; nil is as good as none.
func SameParts(a, b [][]byte) bool {
	return slices.EqualFunc(a, b, bytes.Equal)
}

// Spoil bytes, with their spare room, so that others that share their memory are seen to change.
func Spoil(b []byte) {
	for i := range b[:cap(b)] {
		b[:cap(b)][i] = 77
	}
}

// Apart tells whether the lists of an answer share no bytes, spare room neither, with each other or with those of another call.
func Apart(of func() [][]byte) bool {
	other := of()
	kept := Copies(other)
	for i := range kept {
		l := of()
		Spoil(l[i])
		l[i] = kept[i]
		if !SameParts(l, kept) {
			return false
		}
	}
	return SameParts(other, kept) && SameParts(of(), kept)
}

// Copies of lists of bytes, which share nothing with them.
func Copies(l [][]byte) [][]byte {
	copies := make([][]byte, len(l))
	for i, b := range l {
		copies[i] = bytes.Clone(b)
	}
	return copies
}

// OtherBytes than b, which has at least one: one bit of the first or last one changed, one byte less or more.
func OtherBytes(b []byte) [][]byte {
	first, last := slices.Clone(b), slices.Clone(b)
	first[0] ^= 128
	last[len(b)-1] ^= 1
	return [][]byte{first, last, b[1:], b[:len(b)-1], append(slices.Clone(b), 0), append([]byte{0}, b...)}
}

// OtherPaths than a path to a root.
func OtherPaths(path [][]byte, root []byte) [][][]byte {
	l := [][][]byte{
		append(slices.Clone(path), nil), append(slices.Clone(path), root), append([][]byte{nil}, path...),
		slices.Concat(path, make([][]byte, 64)), slices.Concat(path, make([][]byte, 256)), make([][]byte, 1000),
	}
	for i := range path {
		for _, b := range append(OtherBytes(path[i]), nil) {
			other := slices.Clone(path)
			other[i] = b
			l = append(l, other)
		}
		l = append(l, slices.Delete(slices.Clone(path), i, i+1))
		if i > 0 {
			other := slices.Clone(path)
			other[i], other[i-1] = other[i-1], other[i]
			l = append(l, other)
		}
	}
	return l
}

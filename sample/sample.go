// Package sample: values for the tests of all layers, in short. The program itself does not use it.
package sample

import (
	"math"
	"strings"

	"chirograph/api"
)

// Null is the null.
func Null() api.Value { return api.Value{} }

// Bool with i as its Int, 0 or 1 or a wrong one.
func Bool(i int) api.Value { return api.Value{Kind: api.Bool, Int: i} }

// Int is a number.
func Int(i int) api.Value { return api.Value{Kind: api.Int, Int: i} }

// Real of a float.
func Real(f float64) api.Value { return Bits(math.Float64bits(f)) }

// Bits of a real, which need not be one.
func Bits(b uint64) api.Value { return api.Value{Kind: api.Real, Bits: b} }

// Text is a text.
func Text(s string) api.Value { return api.Value{Kind: api.Text, Text: s} }

// Long is a string of n bytes.
func Long(n int) string { return strings.Repeat("x", n) }

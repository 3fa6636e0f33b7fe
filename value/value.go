// Package value: values, their order, and truth in three parts.
package value

import (
	"cmp"
	"math"
	"strings"
	"unicode/utf8"

	"chirograph/api"
)

// signedNought has the size of 0 under other bits: with it two values could be as large as each other and not the same.
const signedNought = 1 << 63

// Check tells what is wrong with a value (P1.1).
func Check(v api.Value) api.Errno {
	if v.Kind < api.Null || v.Kind > api.Text {
		return api.ErrKind
	}
	if len(v.Text) > api.MaxText {
		return api.ErrSize
	}
	if !onlyOwnFields(v) || !goodContent(v) {
		return api.ErrForm
	}
	return api.OK
}

// onlyOwnFields tells whether each field that is not of a value's Kind is zero.
func onlyOwnFields(v api.Value) bool {
	ownsInt := v.Kind == api.Bool || v.Kind == api.Int
	ownsBits := v.Kind == api.Real
	ownsText := v.Kind == api.Text
	return (ownsInt || v.Int == 0) && (ownsBits || v.Bits == 0) && (ownsText || v.Text == "")
}

// goodContent tells whether the field that is of a value's Kind holds what it may hold.
func goodContent(v api.Value) bool {
	switch v.Kind {
	case api.Bool:
		return v.Int == 0 || v.Int == 1
	case api.Real:
		return !math.IsNaN(real64(v)) && v.Bits != signedNought
	case api.Text:
		return utf8.ValidString(v.Text)
	}
	return true
}

// real64 is the size of a real.
func real64(v api.Value) float64 {
	return math.Float64frombits(v.Bits)
}

// checkBoth tells what is wrong with two values, with the first one first.
func checkBoth(a, b api.Value) api.Errno {
	if e := Check(a); e != api.OK {
		return e
	}
	return Check(b)
}

// Compare tells which of two values stands first: -1, 0 or 1 (P1.2).
func Compare(a, b api.Value) (int, api.Errno) {
	if e := checkBoth(a, b); e != api.OK {
		return 0, e
	}
	return order(a, b), api.OK
}

// order of two values that may be.
func order(a, b api.Value) int {
	if a.Kind != b.Kind {
		return cmp.Compare(a.Kind, b.Kind)
	}
	switch a.Kind {
	case api.Bool, api.Int:
		return cmp.Compare(a.Int, b.Int)
	case api.Real:
		return cmp.Compare(real64(a), real64(b))
	case api.Text:
		return strings.Compare(a.Text, b.Text)
	}
	return 0
}

// Equal: are two values alike (P1.3)?
func Equal(a, b api.Value) (int, api.Errno) {
	return ask(a, b, func(stands int) bool { return stands == 0 })
}

// Less: is the first value less (P1.4)?
func Less(a, b api.Value) (int, api.Errno) {
	return ask(a, b, func(stands int) bool { return stands < 0 })
}

// ask whether the order of two values is as wanted. A null is looked for ahead of the Kinds: it fits beside every Kind.
func ask(a, b api.Value, wanted func(stands int) bool) (int, api.Errno) {
	if e := checkBoth(a, b); e != api.OK {
		return 0, e
	}
	if a.Kind == api.Null || b.Kind == api.Null {
		return api.Unknown, api.OK
	}
	if a.Kind != b.Kind {
		return 0, api.ErrKind
	}
	if wanted(order(a, b)) {
		return api.Yes, api.OK
	}
	return api.No, api.OK
}

// And of two truths (P1.5).
func And(a, b int) (int, api.Errno) {
	return settle(a, b, api.No, api.Yes)
}

// Or of two truths (P1.5).
func Or(a, b int) (int, api.Errno) {
	return settle(a, b, api.Yes, api.No)
}

// Not of a truth (P1.5).
func Not(a int) (int, api.Errno) {
	switch a {
	case api.Yes:
		return api.No, api.OK
	case api.No:
		return api.Yes, api.OK
	case api.Unknown:
		return api.Unknown, api.OK
	}
	return 0, api.ErrKind
}

// settle two truths: one that is decisive is the answer, whatever the other one is; only without one does Unknown count.
func settle(a, b, decisive, otherwise int) (int, api.Errno) {
	if !isTruth(a) || !isTruth(b) {
		return 0, api.ErrKind
	}
	if a == decisive || b == decisive {
		return decisive, api.OK
	}
	if a == api.Unknown || b == api.Unknown {
		return api.Unknown, api.OK
	}
	return otherwise, api.OK
}

func isTruth(a int) bool {
	return a == api.No || a == api.Unknown || a == api.Yes
}

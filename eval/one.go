package eval

import (
	"unicode/utf8"

	"chirograph/api"
	"chirograph/value"
)

// one part, that of an operation on it.
type one struct{ part ready }

func (p one) parts() []ready { return []ready{p.part} }

// valueOf the part, of such a Kind, or null.
func (p one) valueOf(kind int, f fields) (api.Value, api.Errno) {
	v, why := p.part.says(f)
	if why == api.OK && !fits(v, kind) {
		return api.Value{}, api.ErrKind
	}
	return v, why
}

// fits tells whether a value is of a Kind, as null is of any.
func fits(v api.Value, kind int) bool {
	return v.Kind == kind || v.Kind == api.Null
}

type neg struct{ one }

func (x neg) says(f fields) (api.Value, api.Errno) {
	v, why := x.valueOf(api.Int, f)
	if why != api.OK || v.Kind == api.Null {
		return api.Value{}, why
	}
	return number(negative(v.Int))
}

type not struct{ one }

func (x not) says(f fields) (api.Value, api.Errno) {
	v, why := x.valueOf(api.Bool, f)
	if why != api.OK {
		return api.Value{}, why
	}
	return told(value.Not(truthOf(v)))
}

type isNull struct{ one }

func (x isNull) says(f fields) (api.Value, api.Errno) {
	v, why := x.part.says(f)
	if why != api.OK {
		return api.Value{}, why
	}
	return boolOf(v.Kind == api.Null), api.OK
}

type length struct{ one }

func (x length) says(f fields) (api.Value, api.Errno) {
	v, why := x.valueOf(api.Text, f)
	if why != api.OK || v.Kind == api.Null {
		return api.Value{}, why
	}
	return number(utf8.RuneCountInString(v.Text), api.OK)
}

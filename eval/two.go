package eval

import "chirograph/api"

// two parts, those of an operation on them.
type two struct{ left, right ready }

func (p two) parts() []ready { return []ready{p.left, p.right} }

// values of both parts: the left one is looked at first.
func (p two) values(f fields) (a, b api.Value, why api.Errno) {
	if a, why = p.left.says(f); why != api.OK {
		return api.Value{}, api.Value{}, why
	}
	if b, why = p.right.says(f); why != api.OK {
		return api.Value{}, api.Value{}, why
	}
	return a, b, api.OK
}

// valuesOf both parts, each of such a Kind, or null.
func (p two) valuesOf(kind int, f fields) (a, b api.Value, why api.Errno) {
	a, b, why = p.values(f)
	if why == api.OK && !(fits(a, kind) && fits(b, kind)) {
		return api.Value{}, api.Value{}, api.ErrKind
	}
	return a, b, why
}

func oneIsNull(a, b api.Value) bool {
	return a.Kind == api.Null || b.Kind == api.Null
}

// reckoned: the number that comes of those of both parts.
func (p two) reckoned(f fields, reckon func(a, b int) (int, api.Errno)) (api.Value, api.Errno) {
	a, b, why := p.valuesOf(api.Int, f)
	if why != api.OK || oneIsNull(a, b) {
		return api.Value{}, why
	}
	return number(reckon(a.Int, b.Int))
}

type add struct{ two }

func (x add) says(f fields) (api.Value, api.Errno) { return x.reckoned(f, sum) }

type sub struct{ two }

func (x sub) says(f fields) (api.Value, api.Errno) { return x.reckoned(f, difference) }

type mul struct{ two }

func (x mul) says(f fields) (api.Value, api.Errno) { return x.reckoned(f, product) }

type div struct{ two }

func (x div) says(f fields) (api.Value, api.Errno) { return x.reckoned(f, quotient) }

type join struct{ two }

func (x join) says(f fields) (api.Value, api.Errno) {
	a, b, why := x.valuesOf(api.Text, f)
	if why != api.OK || oneIsNull(a, b) {
		return api.Value{}, why
	}
	if len(a.Text)+len(b.Text) > api.MaxText {
		return api.Value{}, api.ErrSize
	}
	return api.Value{Kind: api.Text, Text: a.Text + b.Text}, api.OK
}

type coalesce struct{ two }

func (x coalesce) says(f fields) (api.Value, api.Errno) {
	v, why := x.left.says(f)
	if why != api.OK || v.Kind != api.Null {
		return v, why
	}
	return x.right.says(f)
}

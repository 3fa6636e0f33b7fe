package eval

import (
	"chirograph/api"
	"chirograph/value"
)

func boolOf(b bool) api.Value {
	if b {
		return api.Value{Kind: api.Bool, Int: 1}
	}
	return api.Value{Kind: api.Bool}
}

// truthOf a bool, or of null.
func truthOf(v api.Value) int {
	switch v {
	case boolOf(true):
		return api.Yes
	case boolOf(false):
		return api.No
	}
	return api.Unknown
}

// told: a truth as a value, or why there is none.
func told(truth int, why api.Errno) (api.Value, api.Errno) {
	if why != api.OK || truth == api.Unknown {
		return api.Value{}, why
	}
	return boolOf(truth == api.Yes), api.OK
}

// question that is asked of two values: its truth, or why it can't be asked. Those of value's face know what null answers, and that Kinds must be the same only where there is none.
type question func(a, b api.Value) (int, api.Errno)

// swapped: what is asked of the second value first.
func swapped(ask question) question {
	return func(a, b api.Value) (int, api.Errno) { return ask(b, a) }
}

// denied: whether it is not so.
func denied(ask question) question {
	return func(a, b api.Value) (int, api.Errno) {
		truth, why := ask(a, b)
		if why != api.OK {
			return 0, why
		}
		return value.Not(truth)
	}
}

// compared: what a question answers of both parts.
func (p two) compared(f fields, ask question) (api.Value, api.Errno) {
	a, b, why := p.values(f)
	if why != api.OK {
		return api.Value{}, why
	}
	return told(ask(a, b))
}

type eq struct{ two }

func (x eq) says(f fields) (api.Value, api.Errno) { return x.compared(f, value.Equal) }

type ne struct{ two }

func (x ne) says(f fields) (api.Value, api.Errno) { return x.compared(f, denied(value.Equal)) }

type lt struct{ two }

func (x lt) says(f fields) (api.Value, api.Errno) { return x.compared(f, value.Less) }

type le struct{ two }

func (x le) says(f fields) (api.Value, api.Errno) { return x.compared(f, denied(swapped(value.Less))) }

type gt struct{ two }

func (x gt) says(f fields) (api.Value, api.Errno) { return x.compared(f, swapped(value.Less)) }

type ge struct{ two }

func (x ge) says(f fields) (api.Value, api.Errno) { return x.compared(f, denied(value.Less)) }

// settled: the left part, where it is decisive; else what comes of the truths of both.
func (p two) settled(f fields, decisive api.Value, settle func(a, b int) (int, api.Errno)) (api.Value, api.Errno) {
	a, why := p.left.says(f)
	if why != api.OK || a == decisive {
		return a, why
	}
	b, why := p.right.says(f)
	if why != api.OK {
		return api.Value{}, why
	}
	if !fits(a, api.Bool) || !fits(b, api.Bool) {
		return api.Value{}, api.ErrKind
	}
	return told(settle(truthOf(a), truthOf(b)))
}

type and struct{ two }

func (x and) says(f fields) (api.Value, api.Errno) { return x.settled(f, boolOf(false), value.And) }

type or struct{ two }

func (x or) says(f fields) (api.Value, api.Errno) { return x.settled(f, boolOf(true), value.Or) }

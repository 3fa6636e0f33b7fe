package eval

import (
	"math"
	"math/big"
	"strings"
	"testing"

	"chirograph/api"
	"chirograph/sample"
)

// second way of saying what P10.1 to P10.3 do: by the words of each operation, with numbers of any size; the first fault ends all by a panic.
type second map[string]api.Value

// eval an expression that may be, of a row by the names of its columns.
func (row second) eval(e api.Expr) (v api.Value, why api.Errno) {
	defer func() {
		if fault := recover(); fault != nil {
			v, why = api.Value{}, fault.(api.Errno)
		}
	}()
	return row.of(e), api.OK
}

func (row second) of(e api.Expr) api.Value {
	switch e.Op {
	case api.Lit:
		return e.Value
	case api.Col:
		v, there := row[e.Name]
		must(there, api.ErrNone)
		return v
	}
	left := row.of(e.Args[0])
	if e.Op == api.And && left == sample.Bool(0) || e.Op == api.Or && left == sample.Bool(1) || e.Op == api.Coalesce && left != sample.Null() {
		return left
	}
	right := left // of one part
	if len(e.Args) == 2 {
		right = row.of(e.Args[1])
	}
	if e.Op == api.Coalesce {
		return right
	}
	if asked := asks(e.Op); asked != api.Null {
		must(left == sample.Null() || left.Kind == asked, api.ErrKind)
		must(right == sample.Null() || right.Kind == asked, api.ErrKind)
	}
	switch e.Op {
	case api.IsNull:
		return boolean(left == sample.Null())
	case api.And, api.Or:
		return joined(e.Op, left, right)
	}
	if left == sample.Null() || right == sample.Null() {
		return sample.Null()
	}
	return whole(e.Op, left, right)
}

func must(holds bool, otherwise api.Errno) {
	if !holds {
		panic(otherwise)
	}
}

// asks: the Kind that P10.2 asks of each part that is not null; Null: none.
func asks(op int) int {
	switch op {
	case api.Neg, api.Add, api.Sub, api.Mul, api.Div:
		return api.Int
	case api.Not, api.And, api.Or:
		return api.Bool
	case api.Length, api.Join:
		return api.Text
	}
	return api.Null
}

func boolean(b bool) api.Value {
	if b {
		return sample.Bool(1)
	}
	return sample.Bool(0)
}

// joined: And or Or of bools and nulls, by counting what there is.
func joined(op int, left, right api.Value) api.Value {
	count := map[api.Value]int{}
	count[left]++
	count[right]++
	decisive := boolean(op == api.Or)
	switch {
	case count[decisive] > 0:
		return decisive
	case count[sample.Null()] > 0:
		return sample.Null()
	}
	return boolean(op == api.And)
}

// whole: an operation whose parts are not null, and of what it asks.
func whole(op int, left, right api.Value) api.Value {
	switch op {
	case api.Not:
		return boolean(left == sample.Bool(0))
	case api.Length:
		return sample.Int(len([]rune(left.Text)))
	case api.Join:
		s := strings.Join([]string{left.Text, right.Text}, "")
		must(len(s) <= api.MaxText, api.ErrSize)
		return sample.Text(s)
	case api.Neg, api.Add, api.Sub, api.Mul, api.Div:
		return reckoned(op, big.NewInt(int64(left.Int)), big.NewInt(int64(right.Int)))
	}
	must(left.Kind == right.Kind, api.ErrKind)
	return boolean(stands(op, left, right))
}

// reckoned in numbers of any size.
func reckoned(op int, a, b *big.Int) api.Value {
	n := new(big.Int)
	switch op {
	case api.Neg:
		n.Neg(a)
	case api.Add:
		n.Add(a, b)
	case api.Sub:
		n.Sub(a, b)
	case api.Mul:
		n.Mul(a, b)
	case api.Div:
		must(b.Sign() != 0, api.ErrZero)
		n.Quo(a, b)
	}
	must(n.IsInt64(), api.ErrRange)
	return sample.Int(int(n.Int64()))
}

// stands tells whether two values of one Kind stand as a comparison says.
func stands(op int, left, right api.Value) bool {
	less, more := left.Int < right.Int, left.Int > right.Int
	switch left.Kind {
	case api.Real:
		a, b := math.Float64frombits(left.Bits), math.Float64frombits(right.Bits)
		less, more = a < b, a > b
	case api.Text:
		less, more = left.Text < right.Text, left.Text > right.Text
	}
	switch op {
	case api.Eq:
		return !less && !more
	case api.Ne:
		return less || more
	case api.Lt:
		return less
	case api.Le:
		return !more
	case api.Gt:
		return more
	}
	return !less
}

// mustAgree with the second way.
func mustAgree(t *testing.T, e api.Expr, cols []api.Column, row []api.Value) (api.Value, api.Errno) {
	t.Helper()
	named := second{}
	for i, c := range cols {
		named[c.Name] = row[i]
	}
	want, wantWhy := named.eval(e)
	v, why := Eval(e, cols, row)
	if v != want || why != wantWhy {
		t.Errorf("Eval(%+v, %+v, %+v) = %+v %d, want %+v %d", e, cols, row, v, why, want, wantWhy)
	}
	return want, wantWhy
}

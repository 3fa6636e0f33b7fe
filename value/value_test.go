package value

import (
	"math"
	"strings"
	"testing"

	"chirograph/api"
	"chirograph/sample"
)

// rising values, each ahead of all behind it.
func rising() []api.Value {
	return []api.Value{
		sample.Null(),
		sample.Bool(0), sample.Bool(1),
		sample.Int(math.MinInt), sample.Int(math.MinInt + 1), sample.Int(-1), sample.Int(0), sample.Int(1), sample.Int(3),
		sample.Int(1 << 53), sample.Int(1<<53 + 1), sample.Int(math.MaxInt - 1), sample.Int(math.MaxInt),
		sample.Real(math.Inf(-1)), sample.Real(-math.MaxFloat64), sample.Real(-2), sample.Real(-1.5), sample.Real(-math.SmallestNonzeroFloat64), sample.Real(0),
		sample.Real(math.SmallestNonzeroFloat64), sample.Real(0.5), sample.Real(1.5), sample.Real(2), sample.Real(10), sample.Real(math.MaxFloat64), sample.Real(math.Inf(1)),
		sample.Text(""), sample.Text("\x00"), sample.Text("\x00\x00"), sample.Text("\x01"), sample.Text("A"), sample.Text("B"), sample.Text("Ba"), sample.Text("a"), sample.Text("a\x00"), sample.Text("a "), sample.Text("ab"),
		sample.Text("aba"), sample.Text("b"), sample.Text("z"), sample.Text("é"), sample.Text("\uffff"), sample.Text("\U00010000"), sample.Text("\U0010ffff"),
	}
}

func sign(n int) int {
	if n < 0 {
		return -1
	}
	if n > 0 {
		return 1
	}
	return 0
}

// TestCheckTakes: P1.1, values that may be.
func TestCheckTakes(t *testing.T) {
	good := append(rising(), sample.Text(sample.Long(api.MaxText)), sample.Text(strings.Repeat("é", api.MaxText/2)), sample.Bits(1), sample.Bits(1<<63|1), sample.Bits(0x7ff0000000000000), sample.Bits(0xfff0000000000000))
	for _, v := range good {
		if e := Check(v); e != api.OK {
			t.Errorf("Check(%+v) = %d, want 0", v, e)
		}
	}
}

// TestCheckRefuses: P1.1, each error and which one stands first.
func TestCheckRefuses(t *testing.T) {
	for _, r := range sample.RefusedValues() {
		if e := Check(r.Value); e != r.Why {
			t.Errorf("Check(%+v) = %d, want %d", r.Value, e, r.Why)
		}
	}
}

// TestCompare: P1.2 and P1.6, each of many values against each.
func TestCompare(t *testing.T) {
	l := rising()
	for i, a := range l {
		for j, b := range l {
			if n, e := Compare(a, b); n != sign(i-j) || e != api.OK {
				t.Errorf("Compare(%+v, %+v) = %d %d, want %d 0", a, b, n, e, sign(i-j))
			}
		}
	}
}

// TestEqualAndLess: P1.3 and P1.4, each of many values against each.
func TestEqualAndLess(t *testing.T) {
	l := rising()
	for i, a := range l {
		for j, b := range l {
			equal, less, want := api.No, api.No, api.OK
			if a.Kind == api.Null || b.Kind == api.Null {
				equal, less = api.Unknown, api.Unknown
			} else if a.Kind != b.Kind {
				want = api.ErrKind
			} else if i == j {
				equal = api.Yes
			} else if i < j {
				less = api.Yes
			}
			if n, e := Equal(a, b); n != equal || e != want {
				t.Errorf("Equal(%+v, %+v) = %d %d, want %d %d", a, b, n, e, equal, want)
			}
			if n, e := Less(a, b); n != less || e != want {
				t.Errorf("Less(%+v, %+v) = %d %d, want %d %d", a, b, n, e, less, want)
			}
		}
	}
}

// TestTwoRefused: P1.2 to P1.4 refuse what Check does, the first one first, ahead of nulls and of Kinds that differ.
func TestTwoRefused(t *testing.T) {
	calls := map[string]func(a, b api.Value) (int, api.Errno){"Compare": Compare, "Equal": Equal, "Less": Less}
	for name, call := range calls {
		for _, r := range sample.RefusedValues() {
			for _, v := range []api.Value{sample.Null(), sample.Bool(1), sample.Int(3), sample.Real(1.5), sample.Text("a")} {
				if n, e := call(r.Value, v); n != 0 || e != r.Why {
					t.Errorf("%s(%+v, %+v) = %d %d, want 0 %d", name, r.Value, v, n, e, r.Why)
				}
				if n, e := call(v, r.Value); n != 0 || e != r.Why {
					t.Errorf("%s(%+v, %+v) = %d %d, want 0 %d", name, v, r.Value, n, e, r.Why)
				}
			}
			for _, s := range sample.RefusedValues() {
				if n, e := call(r.Value, s.Value); n != 0 || e != r.Why {
					t.Errorf("%s(%+v, %+v) = %d %d, want 0 %d", name, r.Value, s.Value, n, e, r.Why)
				}
			}
		}
	}
}

// TestTruths: P1.5, all truths.
func TestTruths(t *testing.T) {
	const n, u, y = api.No, api.Unknown, api.Yes
	for _, c := range []struct{ a, b, and, or int }{
		{n, n, n, n}, {n, u, n, u}, {n, y, n, y},
		{u, n, n, u}, {u, u, u, u}, {u, y, u, y},
		{y, n, n, y}, {y, u, u, y}, {y, y, y, y},
	} {
		if got, e := And(c.a, c.b); got != c.and || e != api.OK {
			t.Errorf("And(%d, %d) = %d %d, want %d 0", c.a, c.b, got, e, c.and)
		}
		if got, e := Or(c.a, c.b); got != c.or || e != api.OK {
			t.Errorf("Or(%d, %d) = %d %d, want %d 0", c.a, c.b, got, e, c.or)
		}
	}
	for _, c := range []struct{ a, want int }{{n, y}, {u, u}, {y, n}} {
		if got, e := Not(c.a); got != c.want || e != api.OK {
			t.Errorf("Not(%d) = %d %d, want %d 0", c.a, got, e, c.want)
		}
	}
}

// TestNoTruths: P1.5, what is none is refused, even beside a truth that is decisive.
func TestNoTruths(t *testing.T) {
	others := []int{api.No, api.Unknown, api.Yes, -1, 3, math.MinInt, math.MaxInt}
	for _, bad := range []int{-1, 3, math.MinInt, math.MaxInt} {
		for _, b := range others {
			for name, call := range map[string]func(a, b int) (int, api.Errno){"And": And, "Or": Or} {
				if got, e := call(bad, b); got != 0 || e != api.ErrKind {
					t.Errorf("%s(%d, %d) = %d %d, want 0 %d", name, bad, b, got, e, api.ErrKind)
				}
				if got, e := call(b, bad); got != 0 || e != api.ErrKind {
					t.Errorf("%s(%d, %d) = %d %d, want 0 %d", name, b, bad, got, e, api.ErrKind)
				}
			}
		}
		if got, e := Not(bad); got != 0 || e != api.ErrKind {
			t.Errorf("Not(%d) = %d %d, want 0 %d", bad, got, e, api.ErrKind)
		}
	}
}

package expr

import (
	"math"
	"slices"
	"strings"
	"testing"

	"chirograph/api"
	"chirograph/sample"
)

// leaves: literals and columns that may be.
func leaves() []api.Expr {
	var l []api.Expr
	for _, v := range []api.Value{
		sample.Null(), sample.Bool(0), sample.Bool(1), sample.Int(0), sample.Int(1), sample.Int(math.MaxInt),
		sample.Real(0), sample.Real(-1.5), sample.Real(math.Inf(-1)), sample.Real(math.MaxFloat64),
		sample.Text(""), sample.Text("it's"), sample.Text("NULL"), sample.Text("\u00e9"), sample.Text(sample.Long(api.MaxText)),
	} {
		l = append(l, sample.Lit(v))
	}
	for _, name := range []string{"a", "z", "a1_", "null", "abcdefgh"} {
		l = append(l, sample.Col(name))
	}
	return l
}

// on: an operation whose parts are all the same.
func on(op int, part api.Expr) api.Expr {
	if sample.PartsOf(op) == 2 {
		return sample.Op(op, part, part)
	}
	return sample.Op(op, part)
}

// shallow: expressions that may be, of each Op with each leaf.
func shallow() []api.Expr {
	l := leaves()
	for _, op := range append(sample.OnOne(), sample.OnTwo()...) {
		for _, leaf := range leaves() {
			l = append(l, on(op, leaf))
		}
	}
	return l
}

// TestCheckTakes: P8.1 and P8.2, each Op, literal and column.
func TestCheckTakes(t *testing.T) {
	for _, e := range shallow() {
		if why := Check(e); why != api.OK {
			t.Errorf("Check(%+v) = %d, want 0", e, why)
		}
	}
}

// wrong: an expression with a fault of its own, and which one it is.
type wrong struct {
	e    api.Expr
	want api.Errno
}

// wrongOps there are not, some of them one by their lowest byte.
func wrongOps() []int {
	return []int{0, -1, -3, 21, 22, 255, 257, 258, 259, 271, 1<<32 + 1, 1<<32 + 3, math.MinInt, math.MinInt + 1, math.MaxInt}
}

// wrongLiterals: values that may not be, or have an Int below 0.
func wrongLiterals() []api.Value {
	return []api.Value{
		{Kind: -1}, {Kind: 5}, {Kind: 257}, {Kind: math.MinInt}, {Int: 1}, {Int: -1}, {Bits: 1}, {Text: "a"},
		sample.Bool(2), sample.Bool(-1), sample.Int(-1), sample.Int(-7), sample.Int(math.MinInt),
		{Kind: api.Int, Int: 1, Bits: 1}, {Kind: api.Int, Text: "a"}, {Kind: api.Text, Text: "a", Int: 1}, {Kind: api.Text, Text: "a", Int: -1}, {Kind: api.Real, Int: -1},
		sample.Real(math.NaN()), sample.Bits(1 << 63), sample.Text("\xff"), sample.Text(sample.Long(api.MaxText + 1)), {Kind: api.Int, Text: sample.Long(1000)},
	}
}

// wrongs: each fault an expression may have, without parts that are wrong.
func wrongs() []wrong {
	var l []wrong
	add := func(want api.Errno, e api.Expr) { l = append(l, wrong{e, want}) }
	a := sample.Col("a")
	for _, op := range wrongOps() {
		for _, parts := range [][]api.Expr{nil, {}, {a}, {a, a}, {a, a, a}} {
			add(api.ErrKind, sample.Op(op, parts...))
			add(api.ErrKind, api.Expr{Op: op, Name: "A", Value: sample.Int(-1), Args: parts})
		}
	}
	for op := api.Lit; op <= api.Coalesce; op++ {
		for n := range 5 {
			e := api.Expr{Op: op, Args: slices.Repeat([]api.Expr{a}, n)}
			if op == api.Col {
				e.Name = "a"
			}
			if n != sample.PartsOf(op) {
				add(api.ErrForm, e)
			}
		}
	}
	for _, name := range sample.WrongNames() {
		add(api.ErrForm, sample.Col(name))
	}
	for _, v := range wrongLiterals() {
		add(api.ErrForm, sample.Lit(v))
	}
	return append(l, withOtherFields()...)
}

// withOtherFields: expressions that may be, but for a field that is not of their Op.
func withOtherFields() []wrong {
	var l []wrong
	for _, e := range shallow() {
		for _, name := range []string{"a", "A", sample.Long(1000)} {
			if e.Op != api.Col {
				other := e
				other.Name = name
				l = append(l, wrong{other, api.ErrForm})
			}
		}
		for _, v := range append(wrongLiterals(), sample.Bool(0), sample.Int(0), sample.Int(1), sample.Real(1), sample.Text("")) {
			if e.Op != api.Lit {
				other := e
				other.Value = v
				l = append(l, wrong{other, api.ErrForm})
			}
		}
	}
	return l
}

// mustRefuse an expression, whoever is asked.
func mustRefuse(t *testing.T, e api.Expr, want api.Errno) {
	t.Helper()
	if why := Check(e); why != want {
		t.Errorf("Check(%+v) = %d, want %d", e, why, want)
	}
	if l, why := Show(e); len(l) != 0 || why != want {
		t.Errorf("Show(%+v) = %+v %d, want none %d", e, l, why, want)
	}
}

// TestRefuses: P8.2 and P8.3, each fault, alone and as a part.
func TestRefuses(t *testing.T) {
	a := sample.Col("a")
	for _, w := range wrongs() {
		mustRefuse(t, w.e, w.want)
		for _, op := range sample.OnOne() {
			mustRefuse(t, sample.Op(op, w.e), w.want)
		}
		for _, op := range sample.OnTwo() {
			mustRefuse(t, sample.Op(op, w.e, a), w.want)
			mustRefuse(t, sample.Op(op, a, w.e), w.want)
		}
	}
}

// tree in which something stands on each side of something.
func tree() api.Expr {
	a := sample.Col("a")
	twig := func() api.Expr { return sample.Op(api.Mul, sample.Op(api.Neg, a), sample.Op(api.Add, a, a)) }
	return sample.Op(api.Coalesce, sample.Op(api.Sub, twig(), twig()), sample.Op(api.Not, twig()))
}

// all expressions that one is made of, from the outside in, from left to right.
func all(e *api.Expr) []*api.Expr {
	l := []*api.Expr{e}
	for i := range e.Args {
		l = append(l, all(&e.Args[i])...)
	}
	return l
}

// TestFirstFault: P8.2, from the outside in, from left to right: whichever fault stands first is the one that is told.
func TestFirstFault(t *testing.T) {
	n := count(tree())
	for i := range n {
		for j := range n {
			if i == j {
				continue
			}
			e := tree()
			l := all(&e)
			l[i].Op = 0
			l[j].Value = sample.Int(1)
			if i < j {
				mustRefuse(t, e, api.ErrKind)
			} else {
				mustRefuse(t, e, api.ErrForm)
			}
		}
	}
}

// count of an expression and all its parts.
func count(e api.Expr) int {
	n := 1
	for _, part := range e.Args {
		n += count(part)
	}
	return n
}

// depth of an expression.
func depth(e api.Expr) int {
	most := 0
	for _, part := range e.Args {
		most = max(most, depth(part))
	}
	return most + 1
}

// mustBeSized: OK or ErrSize, as its depth and the number of its parts say.
func mustBeSized(t *testing.T, e api.Expr) {
	t.Helper()
	want := api.OK
	if depth(e) > api.MaxDepth || count(e) > api.MaxNodes {
		want = api.ErrSize
	}
	if why := Check(e); why != want {
		t.Errorf("Check of depth %d, of %d = %d, want %d", depth(e), count(e), why, want)
	}
	if l, why := Show(e); why != want || why != api.OK && len(l) != 0 {
		t.Errorf("Show of depth %d, of %d = %+v %d, want %d", depth(e), count(e), l, why, want)
	}
}

// tower of such a depth, of one operation; of one on two parts the next one stands on that side.
func tower(op, high, side int) api.Expr {
	e := sample.Col("a")
	for range high - 1 {
		parts := slices.Repeat([]api.Expr{sample.Col("b")}, sample.PartsOf(op))
		parts[side] = e
		e = sample.Op(op, parts...)
	}
	return e
}

// TestDepth: P8.2, up to MaxDepth and beyond, on each side.
func TestDepth(t *testing.T) {
	for _, op := range append(sample.OnOne(), sample.OnTwo()...) {
		for side := range sample.PartsOf(op) {
			for _, high := range []int{1, 2, api.MaxDepth - 1, api.MaxDepth, api.MaxDepth + 1, api.MaxDepth + 2, 100} {
				mustBeSized(t, tower(op, high, side))
			}
		}
	}
}

// bush of n expressions, none deeper than it must be.
func bush(n int) api.Expr {
	switch n {
	case 1:
		return sample.Col("a")
	case 2:
		return sample.Op(api.Not, sample.Lit(sample.Null()))
	}
	left := (n - 1) / 2
	return sample.Op(api.Coalesce, bush(left), bush(n-1-left))
}

// TestNodes: P8.2, up to MaxNodes expressions and beyond.
func TestNodes(t *testing.T) {
	for n := 1; n < 64; n++ {
		if e := bush(n); count(e) != n || depth(e) > api.MaxDepth {
			t.Fatalf("a bush of %d has %d, of depth %d", n, count(e), depth(e))
		}
		mustBeSized(t, bush(n))
	}
}

// TestSizeFirst: P8.2, too much is refused ahead of all else, whatever stands above it.
func TestSizeFirst(t *testing.T) {
	a := sample.Col("a")
	for _, op := range append(wrongOps(), api.Lit, api.Col, api.Neg, api.Add, api.Length) {
		most := slices.Repeat([]api.Expr{a}, api.MaxNodes-1)
		want := api.ErrForm
		if slices.Contains(wrongOps(), op) {
			want = api.ErrKind
		}
		mustRefuse(t, sample.Op(op, most...), want)
		mustRefuse(t, sample.Op(op, append(most, a)...), api.ErrSize)
		mustRefuse(t, sample.Op(op, append(most, api.Expr{})...), api.ErrSize)
		mustRefuse(t, sample.Op(op, sample.Op(op, most...)), api.ErrSize)
		mustRefuse(t, sample.Op(op, make([]api.Expr, 1000000)...), api.ErrSize)
		high := a
		for n := 2; n < 12; n++ {
			high = sample.Op(op, high)
			if n > api.MaxDepth {
				mustRefuse(t, high, api.ErrSize)
				mustRefuse(t, sample.Op(api.Add, sample.Col("A"), high), api.ErrSize)
			}
		}
	}
}

// TestPartOfItself: expressions without an end are too deep.
func TestPartOfItself(t *testing.T) {
	for _, n := range []int{1, 2, 1000} {
		for _, op := range []int{0, api.Lit, api.Neg, api.Add} {
			parts := make([]api.Expr, n)
			for i := range parts {
				parts[i] = sample.Op(op, parts...)
			}
			mustRefuse(t, parts[0], api.ErrSize)
		}
	}
}

// TestNamesAreThoseOfTokens: P8.2, a column's Name of each byte.
func TestNamesAreThoseOfTokens(t *testing.T) {
	for i := range 256 {
		for _, ahead := range []string{"", "a"} {
			name := ahead + string([]byte{byte(i)})
			good := strings.IndexByte("abcdefghijklmnopqrstuvwxyz", byte(i)) >= 0 || ahead != "" && strings.IndexByte("0123456789_", byte(i)) >= 0
			if why := Check(sample.Col(name)); (why == api.OK) != good || !good && why != api.ErrForm {
				t.Errorf("Check of the column %q = %d", name, why)
			}
		}
	}
}

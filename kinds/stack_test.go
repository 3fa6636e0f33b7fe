package kinds

import (
	"math/rand"
	"testing"

	"chirograph/api"
	"chirograph/expr"
	"chirograph/sample"
)

// line of a table of P9.2: the Kinds that the parts of an operation have where none of them is Null, and the Kind that it gives then.
type line struct {
	parts []int
	gives int
}

// lines of an operation.
func lines(op int) []line {
	const b, i, t = api.Bool, api.Int, api.Text
	switch op {
	case api.Neg:
		return []line{{[]int{i}, i}}
	case api.Add, api.Sub, api.Mul, api.Div:
		return []line{{[]int{i, i}, i}}
	case api.Not:
		return []line{{[]int{b}, b}}
	case api.And, api.Or:
		return []line{{[]int{b, b}, b}}
	case api.Length:
		return []line{{[]int{t}, i}}
	case api.Join:
		return []line{{[]int{t, t}, t}}
	}
	var l []line
	for _, k := range kindsOfColumns() {
		switch op {
		case api.IsNull:
			l = append(l, line{[]int{k}, b})
		case api.Coalesce:
			l = append(l, line{[]int{k, k}, k})
		default:
			l = append(l, line{[]int{k, k}, b})
		}
	}
	return l
}

// said of an expression: its Kind, and whether it may be null; or what is wrong.
type said struct {
	kind int
	null bool
	why  api.Errno
}

// agrees tells whether parts have the Kinds of a line, where Null is any of them.
func (l line) agrees(parts []said) bool {
	for i, p := range parts {
		if p.kind != api.Null && p.kind != l.parts[i] {
			return false
		}
	}
	return true
}

// byLines says of an operation what the lines say that agree: where these do not give one Kind it is Null.
func byLines(op int, parts []said) said {
	given := map[int]int{}
	for _, l := range lines(op) {
		if l.agrees(parts) {
			given[l.gives]++
		}
	}
	s := said{null: nullBy(op, parts)}
	switch len(given) {
	case 0:
		return said{why: api.ErrKind}
	case 1:
		for s.kind = range given {
		}
	}
	return s
}

// nullBy: whether an operation may be null.
func nullBy(op int, parts []said) bool {
	switch op {
	case api.IsNull:
		return false
	case api.Coalesce:
		return parts[0].null && parts[1].null
	}
	one := false
	for _, p := range parts {
		one = one || p.null
	}
	return one
}

// byStack says what P9.2 does in another way: all parts one behind the other, each operation taking what it is of from the top of a stack.
func byStack(e api.Expr, cols map[string]api.Column) said {
	var stack []said
	for _, part := range behind(&e) {
		n := len(stack) - len(part.Args)
		s := said{part.Value.Kind, part.Value.Kind == api.Null, api.OK}
		switch c, there := cols[part.Name]; {
		case part.Op == api.Col && !there:
			s = said{why: api.ErrNone}
		case part.Op == api.Col:
			s = said{c.Kind, c.Null, api.OK}
		case part.Op != api.Lit:
			s = byLines(part.Op, stack[n:])
		}
		if s.why != api.OK {
			return s
		}
		stack = append(stack[:n], s)
	}
	return stack[0]
}

// mustAgree with the second way.
func mustAgree(t *testing.T, e api.Expr, list []api.Column) said {
	t.Helper()
	cols := map[string]api.Column{}
	for _, c := range list {
		cols[c.Name] = c
	}
	want := byStack(e, cols)
	kind, null, f := Of(e, list)
	if got := (said{kind, null, f}); got != want {
		t.Errorf("Of(%+v, %+v) = %+v, want %+v", e, list, got, want)
	}
	return want
}

// mixed columns: some that may be null, some that may not.
func mixed() []api.Column {
	return []api.Column{sample.Filled("b", api.Bool), sample.Column("i", api.Int), sample.Column("r", api.Real), sample.Filled("t", api.Text), sample.Column("x", api.Bool)}
}

// leaves: a literal of each Kind, each column, and one that there is not.
func leaves() []api.Expr {
	var l []api.Expr
	for kind := api.Null; kind <= api.Text; kind++ {
		l = append(l, sample.Lit(valuesOf(kind)[0]))
	}
	for _, c := range nullable() {
		l = append(l, sample.Col(c.Name))
	}
	return append(l, sample.Col("y"))
}

// TestEachOperation: P9.2, each operation on each two leaves, and each one on what these give, on each side.
func TestEachOperation(t *testing.T) {
	for _, cols := range [][]api.Column{nullable(), mixed()} {
		shallow := leaves()
		for _, op := range append(sample.OnOne(), sample.OnTwo()...) {
			for _, a := range leaves() {
				if sample.PartsOf(op) == 1 {
					shallow = append(shallow, sample.Op(op, a))
					continue
				}
				for _, b := range leaves() {
					shallow = append(shallow, sample.Op(op, a, b))
				}
			}
		}
		for _, e := range shallow {
			mustAgree(t, e, cols)
			for _, op := range sample.OnOne() {
				mustAgree(t, sample.Op(op, e), cols)
			}
			for _, op := range sample.OnTwo() {
				for _, leaf := range leaves() {
					mustAgree(t, sample.Op(op, e, leaf), cols)
					mustAgree(t, sample.Op(op, leaf, e), cols)
				}
			}
		}
	}
}

// grown by chance, of such a depth at most; mostly with the Kind that is asked for (Null: any).
func grown(chance *rand.Rand, most, asked int) api.Expr {
	l := leaves()
	switch chance.Intn(50) {
	case 0:
		asked = chance.Intn(api.Text + 1)
	case 1:
		return l[len(l)-1] // the column that there is not
	}
	if most == 1 || chance.Intn(6) == 0 {
		if chance.Intn(2) == 0 {
			return l[asked] // the literal of that Kind
		}
		return l[api.Text+max(asked, api.Bool)] // the column
	}
	ops := append(sample.OnOne(), sample.OnTwo()...)
	for {
		op := ops[chance.Intn(len(ops))]
		all := lines(op)
		line := all[chance.Intn(len(all))]
		if asked != api.Null && line.gives != asked {
			continue
		}
		var parts []api.Expr
		for _, kind := range line.parts {
			parts = append(parts, grown(chance, most-1, kind))
		}
		return sample.Op(op, parts...)
	}
}

// TestManyExpressions: P9.2, of many large expressions, most of them without a fault.
func TestManyExpressions(t *testing.T) {
	chance := rand.New(rand.NewSource(9))
	lists := [][]api.Column{nullable(), filled(), mixed()}
	counts := map[api.Errno]int{}
	for range 20000 {
		e := grown(chance, 2+chance.Intn(api.MaxDepth-1), chance.Intn(api.Text+1))
		if expr.Check(e) != api.OK {
			continue
		}
		counts[mustAgree(t, e, lists[chance.Intn(len(lists))]).why]++
	}
	for _, why := range []api.Errno{api.OK, api.ErrKind, api.ErrNone} {
		if counts[why] < 1000 {
			t.Errorf("of errors there were %v", counts)
		}
	}
}

package kinds

import (
	"math/rand"
	"testing"

	"chirograph/api"
	"chirograph/expr"
	"chirograph/sample"
)

// said of an expression: its Kind, and whether it may be null; or what is wrong.
type said struct {
	kind int
	null bool
	why  api.Errno
}

// agrees tells whether parts have the Kinds of a line, where Null is any of them.
func agrees(l sample.Line, parts []said) bool {
	for i, p := range parts {
		if p.kind != api.Null && p.kind != l.Parts[i] {
			return false
		}
	}
	return true
}

// byLines says of an operation what the lines say that agree: where these do not give one Kind it is Null.
func byLines(op int, parts []said) said {
	given := map[int]int{}
	for _, l := range sample.Lines(op) {
		if agrees(l, parts) {
			given[l.Gives]++
		}
	}
	s := said{null: nullBy(op, parts)}
	switch len(given) {
	case 0:
		return said{why: api.ErrKind}
	case 1:
		for s.kind = range given {
		}
	}
	return s
}

// nullBy: whether an operation may be null.
func nullBy(op int, parts []said) bool {
	switch op {
	case api.IsNull:
		return false
	case api.Coalesce:
		return parts[0].null && parts[1].null
	}
	one := false
	for _, p := range parts {
		one = one || p.null
	}
	return one
}

// byStack says what P9.2 does in another way: all parts one behind the other, each operation taking what it is of from the top of a stack.
func byStack(e api.Expr, cols map[string]api.Column) said {
	var stack []said
	for _, part := range sample.Behind(&e) {
		n := len(stack) - len(part.Args)
		s := said{part.Value.Kind, part.Value.Kind == api.Null, api.OK}
		switch c, there := cols[part.Name]; {
		case part.Op == api.Col && !there:
			s = said{why: api.ErrNone}
		case part.Op == api.Col:
			s = said{c.Kind, c.Null, api.OK}
		case part.Op != api.Lit:
			s = byLines(part.Op, stack[n:])
		}
		if s.why != api.OK {
			return s
		}
		stack = append(stack[:n], s)
	}
	return stack[0]
}

// mustAgree with the second way.
func mustAgree(t *testing.T, e api.Expr, list []api.Column) said {
	t.Helper()
	cols := map[string]api.Column{}
	for _, c := range list {
		cols[c.Name] = c
	}
	want := byStack(e, cols)
	kind, null, f := Of(e, list)
	if got := (said{kind, null, f}); got != want {
		t.Errorf("Of(%+v, %+v) = %+v, want %+v", e, list, got, want)
	}
	return want
}

// mixed columns: some that may be null, some that may not.
func mixed() []api.Column {
	return []api.Column{sample.Filled("b", api.Bool), sample.Column("i", api.Int), sample.Column("r", api.Real), sample.Filled("t", api.Text), sample.Column("x", api.Bool)}
}

// TestEachOperation: P9.2, each operation on each two leaves, and each one on what these give, on each side.
func TestEachOperation(t *testing.T) {
	for _, cols := range [][]api.Column{sample.Columns(), mixed()} {
		shallow := sample.Leaves()
		for _, op := range append(sample.OnOne(), sample.OnTwo()...) {
			for _, a := range sample.Leaves() {
				if sample.PartsOf(op) == 1 {
					shallow = append(shallow, sample.Op(op, a))
					continue
				}
				for _, b := range sample.Leaves() {
					shallow = append(shallow, sample.Op(op, a, b))
				}
			}
		}
		for _, e := range shallow {
			mustAgree(t, e, cols)
			for _, op := range sample.OnOne() {
				mustAgree(t, sample.Op(op, e), cols)
			}
			for _, op := range sample.OnTwo() {
				for _, leaf := range sample.Leaves() {
					mustAgree(t, sample.Op(op, e, leaf), cols)
					mustAgree(t, sample.Op(op, leaf, e), cols)
				}
			}
		}
	}
}

// TestManyExpressions: P9.2, of many large expressions, most of them without a fault.
func TestManyExpressions(t *testing.T) {
	chance := rand.New(rand.NewSource(9))
	lists := [][]api.Column{sample.Columns(), sample.FilledColumns(), mixed()}
	counts := map[api.Errno]int{}
	for range 20000 {
		e := sample.Grown(chance.Intn, 2+chance.Intn(api.MaxDepth-1), chance.Intn(api.Text+1))
		if expr.Check(e) != api.OK {
			continue
		}
		counts[mustAgree(t, e, lists[chance.Intn(len(lists))]).why]++
	}
	for _, why := range []api.Errno{api.OK, api.ErrKind, api.ErrNone} {
		if counts[why] < 1000 {
			t.Errorf("of errors there were %v", counts)
		}
	}
}

package known

import (
	"testing"

	"chirograph/api"
	"chirograph/sample"
)

// TestModes: two of them, and no others.
func TestModes(t *testing.T) {
	for _, mode := range sample.Modes() {
		if !Mode(mode) {
			t.Errorf("there is no mode %d", mode)
		}
	}
	for _, mode := range sample.WrongModes() {
		if Mode(mode) {
			t.Errorf("there is a mode %d", mode)
		}
	}
}

// TestPlaces: from 0 on, below their number.
func TestPlaces(t *testing.T) {
	for n := range 70 {
		for i := range n {
			if !Place(i, n) {
				t.Errorf("%d have no place %d", n, i)
			}
		}
		for _, i := range sample.WrongPlaces(n) {
			if Place(i, n) {
				t.Errorf("%d have a place %d", n, i)
			}
		}
	}
}

// TestColumns: each by its whole name alone, the first one, where two have the same.
func TestColumns(t *testing.T) {
	cols := []api.Column{sample.Filled("a", api.Int), sample.Column("ab", api.Text), sample.Column("A", api.Bool), sample.Filled("ab", api.Int), {}}
	for n := range len(cols) + 1 {
		for name, place := range map[string]int{"a": 0, "ab": 1, "A": 2, "": 4, "b": -1, "abc": -1, "AB": -1, "a ": -1} {
			if place >= n {
				place = -1
			}
			if got := Column(name, cols[:n]); got != place {
				t.Errorf("the column %q of %+v = %d, want %d", name, cols[:n], got, place)
			}
		}
	}
}

// TestExprs: none at all is zero all over, lists without elements or not.
func TestExprs(t *testing.T) {
	for _, e := range []api.Expr{{}, {Args: []api.Expr{}}, {Args: make([]api.Expr, 0, 3)}} {
		if Expr(e) {
			t.Errorf("%#v is an expression", e)
		}
	}
	one := sample.Lit(sample.Int(1))
	for _, e := range []api.Expr{
		one, sample.Col("a"), sample.Op(api.Neg, one), {Op: -1}, {Op: 1 << 32}, {Name: "a"}, {Args: []api.Expr{one}}, {Args: make([]api.Expr, 1)},
		{Value: api.Value{Kind: 1}}, {Value: api.Value{Int: -1}}, {Value: api.Value{Bits: 1 << 63}}, {Value: api.Value{Text: "a"}},
	} {
		if !Expr(e) {
			t.Errorf("%#v is no expression at all", e)
		}
	}
}

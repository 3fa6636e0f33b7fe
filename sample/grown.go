package sample

import (
	"math"
	"slices"

	"chirograph/api"
)

// KindsOfColumns: all that a column may have.
func KindsOfColumns() []int {
	return []int{api.Bool, api.Int, api.Real, api.Text}
}

// ValuesOf a Kind that may be.
func ValuesOf(kind int) []api.Value {
	switch kind {
	case api.Null:
		return []api.Value{Null()}
	case api.Bool:
		return []api.Value{Bool(0), Bool(1)}
	case api.Int:
		return []api.Value{Int(0), Int(1), Int(-1), Int(math.MinInt), Int(math.MaxInt)}
	case api.Real:
		return []api.Value{Real(0), Real(-1.5), Real(math.Inf(1)), Real(math.Inf(-1))}
	}
	return []api.Value{Text(""), Text("it's"), Text("\u00e9"), Text(Long(api.MaxText))}
}

// Columns: one of each Kind that may be null, and one more that may not.
func Columns() []api.Column {
	return []api.Column{Column("b", api.Bool), Column("i", api.Int), Column("r", api.Real), Column("t", api.Text), Filled("x", api.Int)}
}

// FilledColumns: the same ones, but none may be null.
func FilledColumns() []api.Column {
	l := Columns()
	for i := range l {
		l[i].Null = false
	}
	return l
}

// TwoColumns, a number and a text, that may not be null.
func TwoColumns() []api.Column {
	return []api.Column{Filled("k", api.Int), Filled("a", api.Text)}
}

// Rows of Columns. Which ones hangs on chance, which is to answer a number from 0 up to, but not with, its own.
func Rows(chance func(n int) int, n int) [][]api.Value {
	var l [][]api.Value
	for range n {
		var row []api.Value
		for _, c := range Columns() {
			values := append(ValuesOf(c.Kind), ValuesOf(c.Kind)[0])
			if c.Null {
				values[len(values)-1] = Null()
			}
			row = append(row, values[chance(len(values))])
		}
		l = append(l, row)
	}
	return l
}

// Leaves over Columns: a literal of each Kind, Null first, each column, and one that there is not.
func Leaves() []api.Expr {
	var l []api.Expr
	for kind := api.Null; kind <= api.Text; kind++ {
		l = append(l, Lit(ValuesOf(kind)[0]))
	}
	for _, c := range Columns() {
		l = append(l, Col(c.Name))
	}
	return append(l, Col("y"))
}

// Behind: an expression's parts, then itself, from left to right, all the way down.
func Behind(e *api.Expr) []*api.Expr {
	var l []*api.Expr
	for i := range e.Args {
		l = append(l, Behind(&e.Args[i])...)
	}
	return append(l, e)
}

// Line of a table of P9.2: the Kinds that the parts of an operation have where none of them is Null, and the Kind that it gives then.
type Line struct {
	Parts []int
	Gives int
}

// Lines of an operation.
func Lines(op int) []Line {
	const b, i, t = api.Bool, api.Int, api.Text
	switch op {
	case api.Neg:
		return []Line{{[]int{i}, i}}
	case api.Add, api.Sub, api.Mul, api.Div:
		return []Line{{[]int{i, i}, i}}
	case api.Not:
		return []Line{{[]int{b}, b}}
	case api.And, api.Or:
		return []Line{{[]int{b, b}, b}}
	case api.Length:
		return []Line{{[]int{t}, i}}
	case api.Join:
		return []Line{{[]int{t, t}, t}}
	}
	var l []Line
	for _, k := range KindsOfColumns() {
		switch op {
		case api.IsNull:
			l = append(l, Line{[]int{k}, b})
		case api.Coalesce:
			l = append(l, Line{[]int{k, k}, k})
		default:
			l = append(l, Line{[]int{k, k}, b})
		}
	}
	return l
}

// Grown over Columns, of such a depth at most; mostly with the Kind that is asked for (Null: any). Which one hangs on chance, which is to answer a number from 0 up to, but not with, its own.
func Grown(chance func(n int) int, most, asked int) api.Expr {
	l := Leaves()
	switch chance(50) {
	case 0:
		asked = chance(api.Text + 1)
	case 1:
		return l[len(l)-1] // the column that there is not
	}
	if most == 1 || chance(6) == 0 {
		if chance(2) == 0 {
			return l[asked] // the literal of that Kind
		}
		return l[api.Text+max(asked, api.Bool)] // the column
	}
	ops := slices.Concat(OnOne(), OnTwo())
	for {
		op := ops[chance(len(ops))]
		lines := Lines(op)
		line := lines[chance(len(lines))]
		if asked != api.Null && line.Gives != asked {
			continue
		}
		var parts []api.Expr
		for _, kind := range line.Parts {
			parts = append(parts, Grown(chance, most-1, kind))
		}
		return Op(op, parts...)
	}
}

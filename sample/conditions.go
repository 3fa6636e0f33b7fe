package sample

import (
	"math"
	"slices"

	"chirograph/api"
)

// Comparisons: all operations that compare.
func Comparisons() []int {
	return []int{api.Eq, api.Ne, api.Lt, api.Le, api.Gt, api.Ge}
}

// NumberOf n as an expression: one below 0 as Neg of a literal, which the least of all numbers can't be.
func NumberOf(n int) api.Expr {
	if n < 0 {
		return Op(api.Neg, Lit(Int(-n)))
	}
	return Lit(Int(n))
}

// Condition on rows of Columns, of such a depth at most: mostly comparisons of one of their numbers with another number, and Ands of these. Which one hangs on chance, which is to answer a number from 0 up to, but not with, its own.
func Condition(chance func(n int) int, most int) api.Expr {
	switch kind := chance(9); {
	case most > 3 && kind < 6:
		return Op(api.And, Condition(chance, most-1), Condition(chance, most-1))
	case kind == 8:
		return Grown(chance, most, api.Bool)
	}
	numbers := []int{math.MinInt + 1, math.MinInt + 2, math.MaxInt - 1, math.MaxInt, chance(5), chance(9) - 4, chance(math.MaxInt), -chance(math.MaxInt), chance(1<<33) - 1<<32}
	parts := []api.Expr{Col([]string{"i", "x"}[chance(2)]), NumberOf(numbers[chance(len(numbers))])}
	if chance(2) == 0 {
		slices.Reverse(parts)
	}
	return Op(Comparisons()[chance(len(Comparisons()))], parts...)
}

// Places of the columns i and x among Columns.
const (
	PlaceOfI = 1
	PlaceOfX = 4
)

// RowsNear ranges: so many rows of Columns, by chance, whose numbers stand mostly at or beside the ends of such ranges.
func RowsNear(chance func(n int) int, n int, i, x api.Range) [][]api.Value {
	l := Rows(chance, n)
	near := func(r api.Range) api.Value {
		n := []int{r.Lo, r.Hi, chance(9) - 4}[chance(3)]
		return Int(n + chance(3) - 1) // it may wrap round: that is a number, too
	}
	for _, row := range l {
		if chance(4) > 0 {
			row[PlaceOfI] = near(i)
		}
		row[PlaceOfX] = near(x)
	}
	return l
}

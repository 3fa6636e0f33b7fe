package sample

import (
	"slices"

	"chirograph/api"
)

// Plain item, as all up to Max: the items of a query.
func Plain(e api.Expr) api.Item { return api.Item{Expr: e} }

// Count of rows.
func Count() api.Item { return api.Item{Agg: api.Count} }

// Sum of what an expression says.
func Sum(e api.Expr) api.Item { return api.Item{Agg: api.Sum, Expr: e} }

// Min is the least.
func Min(e api.Expr) api.Item { return api.Item{Agg: api.Min, Expr: e} }

// Max is the greatest.
func Max(e api.Expr) api.Item { return api.Item{Agg: api.Max, Expr: e} }

// Asking such items of all rows.
func Asking(items ...api.Item) api.Query { return api.Query{Items: items} }

// Query of rows of Columns, mostly one that may be. Which one hangs on chance, which is to answer a number from 0 up to, but not with, its own.
func Query(chance func(n int) int) api.Query {
	q := api.Query{Where: someCondition(chance)}
	names := []string{"", "", "", "b", "i", "r", "t", "x"}
	q.Group = names[chance(len(names))]
	plain := q.Group == "" && chance(2) == 0
	for range 1 + chance(api.MaxItems) {
		q.Items = append(q.Items, someItem(chance, q.Group, plain))
	}
	for range chance(4) {
		q.Sorts = append(q.Sorts, api.Sort{Item: 1 + chance(len(q.Items)), Down: chance(2) == 0})
	}
	if chance(3) == 0 {
		q.Cut, q.Most = true, chance(7)
	}
	if chance(6) == 0 {
		spoilQuery(chance, &q)
	}
	return q
}

// someCondition: none at all, a comparison of the column that is never null, or any one.
func someCondition(chance func(n int) int) api.Expr {
	switch chance(5) {
	case 0, 1:
		return api.Expr{}
	case 2, 3:
		ops := []int{api.Eq, api.Ne, api.Lt, api.Ge}
		return Op(ops[chance(len(ops))], Col("x"), Lit(Int(chance(3))))
	}
	return Grown(chance, 1+chance(4), api.Bool)
}

// someItem of a query with such a Group, if it is not empty; where all are plain a plain one.
func someItem(chance func(n int) int, group string, plain bool) api.Item {
	e := some(chance, api.Null)
	switch {
	case plain:
		return Plain(e)
	case group != "" && chance(3) == 0:
		return Plain(Col(group))
	}
	switch chance(5) {
	case 0:
		return Count()
	case 1, 2:
		return Sum(some(chance, api.Int))
	case 3:
		return Min(e)
	}
	return Max(e)
}

// some expression, mostly with the Kind that is asked for (Null: any): a column, or one that is grown.
func some(chance func(n int) int, asked int) api.Expr {
	if chance(2) == 0 {
		return Grown(chance, 1+chance(3), asked)
	}
	cols := slices.DeleteFunc(Columns(), func(c api.Column) bool { return asked != api.Null && c.Kind != asked })
	return Col(cols[chance(len(cols))].Name)
}

// spoilQuery by one thing, so that mostly it may not be.
func spoilQuery(chance func(n int) int, q *api.Query) {
	i := chance(len(q.Items))
	switch chance(10) {
	case 0:
		q.Items[i].Agg = chance(7) - 1
	case 1:
		q.Items[i] = Sum(Col("t"))
	case 2:
		q.Items[i].Expr = api.Expr{}
	case 3:
		q.Items = nil
	case 4:
		q.Items = slices.Repeat(q.Items, api.MaxItems)
	case 5:
		q.Sorts = append(q.Sorts, api.Sort{Item: chance(api.MaxItems + 2)})
	case 6:
		q.Sorts = make([]api.Sort, chance(2*api.MaxItems))
	case 7:
		q.Most = chance(3) - 1
	case 8:
		q.Group = "y"
	case 9:
		q.Where = Col("i")
	}
}

// CopyOfQuery that shares no list with it.
func CopyOfQuery(q api.Query) api.Query {
	q.Items, q.Sorts, q.Where = slices.Clone(q.Items), slices.Clone(q.Sorts), CopyOf(q.Where)
	for i, item := range q.Items {
		q.Items[i].Expr = CopyOf(item.Expr)
	}
	return q
}

// RoomyQuery: a copy with spare room behind each list, that something stands in.
func RoomyQuery(q api.Query) api.Query {
	spare := Sum(Op(api.Neg, Col("spare")))
	items := append(slices.Clone(q.Items), spare, spare)
	for i, item := range items {
		items[i].Expr.Args = Roomy(item.Expr.Args)
	}
	q.Where.Args = Roomy(q.Where.Args)
	q.Items = items[:len(q.Items)]
	q.Sorts = append(slices.Clone(q.Sorts), api.Sort{Item: 77, Down: true})[:len(q.Sorts)]
	return q
}

// WholeQuery: a copy with the spare room of each list.
func WholeQuery(q api.Query) api.Query {
	q.Items, q.Sorts, q.Where.Args = slices.Clone(q.Items[:cap(q.Items)]), slices.Clone(q.Sorts[:cap(q.Sorts)]), WholeOf(q.Where.Args)
	for i, item := range q.Items {
		q.Items[i].Expr.Args = WholeOf(item.Expr.Args)
	}
	return q
}

package query

import (
	"iter"

	"chirograph/api"
	"chirograph/eval"
	"chirograph/known"
	"chirograph/table"
)

// Met: what is asked of a row of which the condition holds.
type Met struct {
	group api.Value   // in the column of the Group; without one null, which is the same in all rows
	items []api.Value // that of a Count is not reckoned, and stays null
}

// Meeting of rows with a query that may be asked of them.
type Meeting func(cols []api.Column, rows [][]api.Value, q api.Query) ([]Met, api.Errno)

// Meet the rows of which the condition holds, in their order, or the first fault. Of rows that stand behind one another it may be asked piece by piece.
func Meet(cols []api.Column, rows [][]api.Value, q api.Query) ([]Met, api.Errno) {
	var l []Met
	place := known.Column(q.Group, cols)
	for row, why := range holding(cols, rows, q.Where) {
		if why != api.OK {
			return nil, why
		}
		items, why := reckoned(q.Items, cols, row)
		if why != api.OK {
			return nil, why
		}
		m := Met{items: items}
		if q.Group != "" {
			m.group = row[place]
		}
		l = append(l, m)
	}
	return l, api.OK
}

// holding: the rows of which a condition holds, one by one, and those of which it can't be told whether it does, with why.
func holding(cols []api.Column, rows [][]api.Value, where api.Expr) iter.Seq2[[]api.Value, api.Errno] {
	return func(yield func(row []api.Value, why api.Errno) bool) {
		for _, row := range rows {
			ok, why := table.Holds(where, cols, row)
			if !ok && why == api.OK {
				continue
			}
			if !yield(row, why) {
				return
			}
		}
	}
}

// reckoned: what the items' expressions say of a row, in memory of its own.
func reckoned(items []api.Item, cols []api.Column, row []api.Value) ([]api.Value, api.Errno) {
	l := make([]api.Value, len(items))
	for i, item := range items {
		if item.Agg == api.Count {
			continue
		}
		v, why := eval.Eval(item.Expr, cols, row)
		if why != api.OK {
			return nil, why
		}
		l[i] = v
	}
	return l, api.OK
}

package query

import (
	"slices"

	"chirograph/api"
	"chirograph/value"
)

// tell of the rows that were met: each of them, or their groups (P14.3).
func tell(l []Met, q api.Query) ([][]api.Value, api.Errno) {
	if !slices.ContainsFunc(q.Items, isSum) {
		return itemsOf(l), api.OK
	}
	var told [][]api.Value
	for _, g := range groupsOf(l, q.Group) {
		row, why := g.told(q.Items)
		if why != api.OK {
			return nil, why
		}
		told = append(told, row)
	}
	return told, api.OK
}

func itemsOf(l []Met) [][]api.Value {
	var told [][]api.Value
	for _, m := range l {
		told = append(told, m.items)
	}
	return told
}

// group of rows that are the same in a column.
type group struct {
	value api.Value
	rows  []Met
}

// groupsOf rows, in the order of their values. Without a column there is just one, even of no rows.
func groupsOf(l []Met, col string) []group {
	if col == "" {
		return []group{{rows: l}}
	}
	var groups []group
	places := map[api.Value]int{}
	for _, m := range l {
		i, found := places[m.group]
		if !found {
			i = len(groups)
			places[m.group] = i
			groups = append(groups, group{value: m.group})
		}
		groups[i].rows = append(groups[i].rows, m)
	}
	slices.SortFunc(groups, func(a, b group) int { return order(a.value, b.value) })
	return groups
}

// order of two values that may be: nothing else is reckoned.
func order(a, b api.Value) int {
	n, _ := value.Compare(a, b)
	return n
}

// told of a group, item by item.
func (g group) told(items []api.Item) ([]api.Value, api.Errno) {
	row := make([]api.Value, len(items))
	for i, item := range items {
		v, why := summed(item.Agg, g.values(i))
		if why != api.OK {
			return nil, why
		}
		row[i] = v
	}
	return row, api.OK
}

// values of an item in the rows of a group.
func (g group) values(item int) []api.Value {
	var l []api.Value
	for _, m := range g.rows {
		l = append(l, m.items[item])
	}
	return l
}

// summed: what is told of an item's values in a group. Where it is plain they are all the same, and there are some: a plain one has a Group, which has its rows.
func summed(agg int, l []api.Value) (api.Value, api.Errno) {
	switch agg {
	case api.Plain:
		return l[0], api.OK
	case api.Count:
		return number(len(l)), api.OK
	}
	l = slices.DeleteFunc(l, func(v api.Value) bool { return v.Kind == api.Null })
	if len(l) == 0 {
		return api.Value{}, api.OK
	}
	switch agg {
	case api.Min:
		return slices.MinFunc(l, order), api.OK
	case api.Max:
		return slices.MaxFunc(l, order), api.OK
	}
	return sumOf(l)
}

func number(n int) api.Value {
	return api.Value{Kind: api.Int, Int: n}
}

// by sorts: how two told rows stand.
func by(sorts []api.Sort) func(a, b []api.Value) int {
	return func(a, b []api.Value) int {
		for _, s := range sorts {
			stands := order(a[s.Item-1], b[s.Item-1])
			if s.Down {
				stands = -stands
			}
			if stands != 0 {
				return stands
			}
		}
		return 0
	}
}

package query

import (
	"math/big"
	"math/rand"
	"slices"
	"strings"
	"testing"

	"chirograph/api"
	"chirograph/code"
	"chirograph/eval"
	"chirograph/kinds"
	"chirograph/sample"
	"chirograph/written"
)

// second way of saying what P14.2 to P14.4 do, of rows of the columns of package sample: how values stand is told by their bytes (P2.1), sums are reckoned in numbers of any size; the first fault ends all by a panic.
func second(rows [][]api.Value, q api.Query) (told [][]api.Value, why api.Errno) {
	defer func() {
		if fault := recover(); fault != nil {
			told, why = nil, fault.(api.Errno)
		}
	}()
	secondCheck(q)
	mustHold(len(rows) <= api.MaxRows, api.ErrSize)
	for _, row := range rows {
		must(kinds.Row(row, sample.Columns()))
	}
	told = sorted(toldOf(rows, q), q.Sorts)
	for q.Cut && len(told) > q.Most {
		told = told[:len(told)-1]
	}
	return told, api.OK
}

func must(why api.Errno) {
	if why != api.OK {
		panic(why)
	}
}

func mustHold(ok bool, why api.Errno) {
	if !ok {
		panic(why)
	}
}

// secondCheck: P14.2, but for the columns.
func secondCheck(q api.Query) {
	mustHold(len(q.Items) > 0 && len(q.Items) < 5 && len(q.Sorts) < 5, api.ErrSize)
	if q.Where.Op != 0 {
		mustHold(kindOf(q.Where) <= api.Bool, api.ErrKind)
	}
	mustHold(len(q.Group) == 0 || strings.Contains("b i r t x", q.Group), api.ErrNone)
	counts := map[bool]int{}
	for _, item := range q.Items {
		counts[item.Agg == 0]++
		mustHold(slices.Contains([]int{0, 1, 2, 3, 4}, item.Agg), api.ErrKind)
		if item.Agg == api.Count {
			mustHold(item.Expr.Op == 0 && item.Expr.Args == nil, api.ErrForm)
			continue
		}
		kind := kindOf(item.Expr)
		mustHold(item.Agg != api.Sum || kind == api.Int || kind == api.Null, api.ErrKind)
		mustHold(item.Agg > 0 || len(q.Group) == 0 || item.Expr.Op == api.Col && item.Expr.Name == q.Group, api.ErrForm)
	}
	mustHold(len(q.Group) > 0 || len(counts) == 1, api.ErrForm)
	for _, s := range q.Sorts {
		mustHold(0 < s.Item && s.Item <= len(q.Items), api.ErrRange)
	}
	if q.Cut {
		mustHold(q.Most >= 0, api.ErrRange)
	} else {
		mustHold(q.Most == 0, api.ErrRange)
	}
}

// kindOf an expression, which must have one.
func kindOf(e api.Expr) int {
	kind, _, why := kinds.Of(e, sample.Columns())
	must(why)
	return kind
}

// said of a row by an expression.
func said(e api.Expr, row []api.Value) api.Value {
	v, why := eval.Eval(e, sample.Columns(), row)
	must(why)
	return v
}

// standing of values, as bytes: bit by bit of down it is told which ones go down.
func standing(down int, values ...api.Value) string {
	b, why := code.Encode(values, down)
	must(why)
	return string(b)
}

// toldOf rows, neither sorted nor cut.
func toldOf(rows [][]api.Value, q api.Query) [][]api.Value {
	var each [][]api.Value
	groups := map[string][][]api.Value{}
	if q.Group == "" {
		groups[""] = nil
	}
	for _, row := range rows {
		if q.Where.Op != 0 && said(q.Where, row) != sample.Bool(1) {
			continue
		}
		var items []api.Value
		for _, item := range q.Items {
			v := sample.Null()
			if item.Agg != api.Count {
				v = said(item.Expr, row)
			}
			items = append(items, v)
		}
		each = append(each, items)
		name := ""
		if q.Group != "" {
			name = standing(0, said(sample.Col(q.Group), row))
		}
		groups[name] = append(groups[name], items)
	}
	if !slices.ContainsFunc(q.Items, func(item api.Item) bool { return item.Agg != 0 }) {
		return each
	}
	return toldOfGroups(groups, q)
}

func toldOfGroups(groups map[string][][]api.Value, q api.Query) [][]api.Value {
	var names []string
	for name := range groups {
		names = append(names, name)
	}
	slices.Sort(names)
	var told [][]api.Value
	for _, name := range names {
		var row []api.Value
		for i, item := range q.Items {
			values := map[string]api.Value{}
			sum, some := new(big.Int), []string{}
			for _, items := range groups[name] {
				s := standing(0, items[i])
				values[s] = items[i]
				if items[i] != sample.Null() {
					some = append(some, s)
					sum.Add(sum, big.NewInt(int64(items[i].Int)))
				}
			}
			if item.Agg == api.Sum && len(some) > 0 {
				mustHold(sum.IsInt64(), api.ErrRange)
			}
			row = append(row, ofGroup(item.Agg, len(groups[name]), values, some, sum))
		}
		told = append(told, row)
	}
	return told
}

// ofGroup: what is told of so many rows, of their values by how they stand, of those that are not null, and of the sum of these.
func ofGroup(agg, n int, values map[string]api.Value, some []string, sum *big.Int) api.Value {
	switch agg {
	case api.Plain:
		for _, v := range values {
			return v
		}
	case api.Count:
		return sample.Int(n)
	}
	if len(some) == 0 {
		return sample.Null()
	}
	slices.Sort(some)
	switch agg {
	case api.Min:
		return values[some[0]]
	case api.Max:
		return values[some[len(some)-1]]
	}
	return sample.Int(int(sum.Int64()))
}

// sorted by bytes, at whose end the row's place stands.
func sorted(rows [][]api.Value, sorts []api.Sort) [][]api.Value {
	places := map[string]int{}
	var names []string
	for i, row := range rows {
		var values []api.Value
		down := 0
		for j, s := range sorts {
			values = append(values, row[s.Item-1])
			if s.Down {
				down |= 1 << j
			}
		}
		name := standing(down, append(values, sample.Int(i))...)
		names = append(names, name)
		places[name] = i
	}
	slices.Sort(names)
	var l [][]api.Value
	for _, name := range names {
		l = append(l, rows[places[name]])
	}
	return l
}

// TestManyQueries: P14.2 to P14.4, against the second way.
func TestManyQueries(t *testing.T) {
	chance := rand.New(rand.NewSource(14))
	counts, ways := map[api.Errno]int{}, map[string]int{}
	for range 60000 {
		q, rows := sample.Query(chance.Intn), sample.RowsToAsk(chance.Intn)
		want, why := second(rows, q)
		told, got := Run(sample.Columns(), rows, q)
		if got != why || !sample.SameRows(told, want) {
			t.Fatalf("Run(%+v, %+v) = %s (%d), want %s (%d)", rows, q, written.Rows(told), got, written.Rows(want), why)
		}
		if _, checked := second(nil, q); Check(sample.Columns(), q) != checked {
			t.Fatalf("Check(%+v) = %d, want %d", q, Check(sample.Columns(), q), checked)
		}
		counts[why]++
		if len(told) > 1 {
			ways[wayOf(q)]++
		}
	}
	for _, why := range []api.Errno{api.OK, api.ErrSize, api.ErrKind, api.ErrForm, api.ErrNone, api.ErrRange, api.ErrZero, api.ErrNull} {
		if counts[why] < 200 {
			t.Errorf("of queries there were %v", counts)
		}
	}
	for _, way := range []string{"", "sorted", "sorted cut", "cut", "group", "group sorted", "group cut", "group sorted cut"} {
		if ways[strings.TrimSpace(way)] < 200 {
			t.Errorf("of queries that told some rows there were %v", ways)
		}
	}
}

// wayOf a query, by what it asks for.
func wayOf(q api.Query) string {
	var l []string
	if q.Group != "" {
		l = append(l, "group")
	}
	if len(q.Sorts) > 0 {
		l = append(l, "sorted")
	}
	if q.Cut {
		l = append(l, "cut")
	}
	return strings.Join(l, " ")
}

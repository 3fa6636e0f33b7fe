package index

import (
	"math/rand"
	"slices"
	"testing"

	"chirograph/api"
	"chirograph/query"
	"chirograph/sample"
	"chirograph/span"
	"chirograph/written"
)

// mustTell of five rows what is wanted, and what query's Run tells; by each column of numbers.
func mustTell(t *testing.T, text, want string) {
	t.Helper()
	a := written.Asked(text)
	if told, why := query.Run(a.Cols, a.Rows, a.Query); written.Rows(told) != want || why != api.OK {
		t.Errorf("%s, asked of all rows, tells %s (%d), want %s", text, written.Rows(told), why, want)
	}
	for _, col := range []string{"x", "i"} {
		if told, why := Run(a.Cols, a.Rows, a.Query, col); written.Rows(told) != want || why != api.OK {
			t.Errorf("%s, by %s, tells %s (%d), want %s", text, col, written.Rows(told), why, want)
		}
	}
}

// TestRun: P16.3, with conditions that leave all numbers, some and none; what is not sorted stands as the rows stand, not as their numbers do.
func TestRun(t *testing.T) {
	for text, want := range map[string]string{
		"x": "4; 1; 5; 2; 3", "x , i": "4 7; 1 5; 5 -; 2 -; 3 5", "COUNT ( * )": "5", "SUM ( i )": "17", "x ORDER BY 1": "1; 2; 3; 4; 5", "x LIMIT 2": "4; 1", "t , COUNT ( * ) GROUP BY t": "- 1; '' 1; 'a' 1; 'b' 2",
		"x WHERE x > 1": "4; 5; 2; 3", "x WHERE x >= 2 AND x < 5": "4; 2; 3", "x WHERE 3 >= x": "1; 2; 3", "x WHERE x = 5": "5", "x WHERE 5 = x AND x = 4": "", "x WHERE x > 5": "", "x WHERE x < - 1": "", "x WHERE x > - 1 AND x <> 4": "1; 5; 2; 3", "x WHERE x <= 9223372036854775807": "4; 1; 5; 2; 3", "x WHERE x > 9223372036854775807": "",
		"x WHERE i = 5": "1; 3", "x WHERE i > 5": "4", "x WHERE i <= 7": "4; 1; 3", "x WHERE i < 7 AND x > 1": "3", "x WHERE 3 <= x AND i >= 5 AND b": "4", "x WHERE i <= 9223372036854775807": "4; 1; 3", "x WHERE i >= - 9223372036854775807": "4; 1; 3",
		"x , t WHERE x > 1 ORDER BY 1 DESC": "5 ''; 4 'b'; 3 -; 2 'a'", "i , x WHERE x < 5 ORDER BY 1": "- 2; 5 1; 5 3; 7 4", "i , x WHERE x < 5 ORDER BY 1 DESC": "7 4; 5 1; 5 3; - 2", "x WHERE x > 1 LIMIT 2": "4; 5", "1 , x WHERE x >= 2 ORDER BY 1 LIMIT 3": "1 4; 1 5; 1 2", "t , t WHERE x > 3 GROUP BY t": "'b' 'b'; '' ''", "x WHERE x > 3 LIMIT 0": "",
		"COUNT ( * ) WHERE x > 3": "2", "COUNT ( * ) , SUM ( i ) , MIN ( t ) , MAX ( x ) WHERE x > 1 AND x <= 4": "3 12 'a' 4", "COUNT ( * ) , SUM ( x ) WHERE x > 7": "0 -", "COUNT ( * ) , MAX ( x ) WHERE x = 1 AND x = 2": "0 -", "SUM ( x ) WHERE i = 5": "4",
		"b , COUNT ( * ) WHERE x > 3 GROUP BY b": "true 2", "i , SUM ( x ) WHERE x > 1 GROUP BY i": "- 7; 5 3; 7 4", "i , COUNT ( * ) WHERE x < 4 GROUP BY i ORDER BY 2 DESC": "5 2; - 1", "i , COUNT ( * ) WHERE i > 7 GROUP BY i": "", "x , COUNT ( * ) WHERE i = 5 GROUP BY x": "1 1; 3 1",
	} {
		mustTell(t, text, want)
	}
}

// TestNulls: P16.3, a condition may hold of a row whose number is null, where all numbers are left.
func TestNulls(t *testing.T) {
	for text, want := range map[string]string{
		"x WHERE i IS NULL": "5; 2", "x WHERE i IS NULL AND x > 1": "5; 2", "x WHERE x > 2 AND i IS NULL": "5", "x WHERE i IS NULL OR i = 7": "4; 5; 2", "x WHERE NOT i IS NULL": "4; 1; 3", "x WHERE COALESCE ( i , 7 ) = 7": "4; 5; 2", "x WHERE x < 5": "4; 1; 2; 3", "COUNT ( * ) WHERE x >= 2 AND x <= 5": "4",
		"x WHERE i = 5 AND i IS NULL": "", "x WHERE i > 0 OR TRUE": "4; 1; 5; 2; 3", "x WHERE ( i > 0 ) IS NULL": "5; 2", "x WHERE NULL": "", "x WHERE TRUE": "4; 1; 5; 2; 3", "x WHERE b": "4; 1; 5", "i , COUNT ( * ) GROUP BY i": "- 2; 5 2; 7 1", "COUNT ( * ) , MIN ( i ) WHERE i IS NULL": "2 -",
	} {
		mustTell(t, text, want)
	}
	for _, text := range written.Queries() {
		a := written.Asked(text)
		told, _ := query.Run(a.Cols, a.Rows, a.Query)
		mustTell(t, text, written.Rows(told))
	}
}

// wrongQueries of the columns and rows that are good.
func wrongQueries() []fault {
	var l []fault
	for want, texts := range map[api.Errno][]string{
		api.ErrNone: {"y", "k WHERE y = 1", "COUNT ( * ) GROUP BY y"}, api.ErrKind: {"k WHERE k", "SUM ( a )", "k WHERE k = a"}, api.ErrForm: {"k , COUNT ( * )", "a GROUP BY k"}, api.ErrRange: {"k ORDER BY 2", "k WHERE k > 3 ORDER BY 0"},
	} {
		for _, text := range texts {
			l = append(l, fault{want, func(a *sample.Asked, col *string) { a.Query = written.Query(text) }})
		}
	}
	for want, exprs := range sample.WrongExprs() {
		for _, e := range exprs {
			if e.Op != 0 || len(e.Args) > 0 {
				l = append(l, fault{want, func(a *sample.Asked, col *string) { a.Query.Where = e }})
			}
		}
	}
	return append(l,
		fault{api.ErrSize, func(a *sample.Asked, col *string) { a.Query.Items = nil }}, fault{api.ErrRange, func(a *sample.Asked, col *string) { a.Query.Most = 1 }},
		fault{api.ErrForm, func(a *sample.Asked, col *string) { a.Query.Items[0] = api.Item{Agg: api.Count, Expr: sample.Col("k")} }}, fault{api.ErrKind, func(a *sample.Asked, col *string) { a.Query.Where = api.Expr{Name: "k"} }},
	)
}

// TestRunRefuses: P16.3, what query's Check refuses stands ahead of what Build does, and that ahead of all rows that are asked; whether the condition leaves any of them or none.
func TestRunRefuses(t *testing.T) {
	for _, text := range []string{"k", "1 / 0", "k WHERE k = 77", "k WHERE 1 / 0 = 1", "SUM ( 9223372036854775807 )", "COUNT ( * ) WHERE k > 1 AND k < 1"} {
		given := []fault{{api.OK, func(a *sample.Asked, col *string) { a.Query = written.Query(text) }}}
		eachFault([][]fault{ofColumns(), wrongQueries(), ofCount(), ofRows(), ofColumn(), given}, func(want api.Errno, a sample.Asked, col string) {
			if told, why := Run(a.Cols, a.Rows, a.Query, col); want != api.OK && (len(told) > 0 || why != want) {
				t.Errorf("Run(%+v, %+v, %+v, %q) = %s (%d), want none (%d)", a.Cols, a.Rows, a.Query, col, written.Rows(told), why, want)
			}
		})
	}
}

// TestOthersAreNotLookedAt: P16.3, rows whose number is not in the range may have a fault in them, which nobody meets; where all are looked at it is met.
func TestOthersAreNotLookedAt(t *testing.T) {
	for text, want := range map[string]string{
		"x WHERE 1 / ( x - 3 ) < 5 AND x > 3": "4; 5", "x WHERE x / ( x - 1 ) > 0 AND x >= 2 AND x <= 3": "2; 3", "COUNT ( * ) WHERE 1 / ( x - 2 ) = 0 AND x > 3": "2", "x WHERE 1 / 0 = 1 AND x > 5": "", "x WHERE 1 / 0 = 1 AND x = 1 AND x = 2": "",
	} {
		a := written.Asked(text)
		if told, why := Run(a.Cols, a.Rows, a.Query, "x"); written.Rows(told) != want || why != api.OK {
			t.Errorf("%s, by x, tells %s (%d), want %s", text, written.Rows(told), why, want)
		}
		if told, why := Run(a.Cols, a.Rows, a.Query, "i"); len(told) > 0 || why != api.ErrZero {
			t.Errorf("%s, by i, tells %s (%d)", text, written.Rows(told), why)
		}
	}
}

// someQuery and rows to ask, by chance: mostly with a condition that leaves some numbers, and rows near their ends.
func someQuery(chance func(n int) int) (api.Query, [][]api.Value) {
	q, rows := sample.Query(chance), sample.RowsToAsk(chance)
	if chance(4) > 0 {
		q.Where = sample.Condition(chance, 2+chance(4))
		i, _ := span.Of(q.Where, "i")
		x, _ := span.Of(q.Where, "x")
		rows = slices.Concat(rows, sample.RowsNear(chance, chance(12), i, x))
	}
	return q, rows
}

// refusedAhead of what is asked of rows: P16.3.
func refusedAhead(rows [][]api.Value, q api.Query, col string) api.Errno {
	if why := query.Check(sample.Columns(), q); why != api.OK {
		return why
	}
	_, why := Build(sample.Columns(), rows, col)
	return why
}

// TestManyQueries: P16.3, what query's Run answers, where that is no error; where it is one nothing but an error, or what is told of other rows, the same one each time.
func TestManyQueries(t *testing.T) {
	chance := rand.New(rand.NewSource(163))
	counts, less := map[api.Errno]int{}, 0
	for range 20000 {
		q, rows := someQuery(chance.Intn)
		col := []string{"i", "x", "i", "x", "i", "x", "t", "y"}[chance.Intn(8)]
		refused := refusedAhead(rows, q, col)
		want, wanted := query.Run(sample.Columns(), rows, q)
		told, why := Run(sample.Columns(), rows, q, col)
		again, too := Run(sample.Columns(), rows, q, col)
		counts[why]++
		switch {
		case refused != api.OK && (len(told) > 0 || why != refused), refused == api.OK && wanted == api.OK && (!sample.SameRows(told, want) || why != api.OK):
			t.Fatalf("Run(%+v, %+v, %q) = %s (%d), want %s (%d, refused ahead: %d)", rows, q, col, written.Rows(told), why, written.Rows(want), wanted, refused)
		case why != api.OK && len(told) > 0, !sample.SameRows(told, again), why != too:
			t.Fatalf("Run(%+v, %+v, %q) = %s (%d), then %s (%d)", rows, q, col, written.Rows(told), why, written.Rows(again), too)
		}
		if r, f := span.Of(q.Where, col); why == api.OK && f == api.OK && r != span.All() && len(told) > 0 {
			less++
		}
	}
	for _, why := range []api.Errno{api.OK, api.ErrSize, api.ErrKind, api.ErrForm, api.ErrNone, api.ErrRange, api.ErrZero, api.ErrNull} {
		if counts[why] < 60 {
			t.Errorf("of queries there were %v", counts)
		}
	}
	if less < 2000 {
		t.Errorf("of queries that told some rows of a range there were %d", less)
	}
}

// TestAllRows: P16.3, up to MaxRows rows, each range of them.
func TestAllRows(t *testing.T) {
	var l []int
	for k := range api.MaxRows {
		l = append(l, k*37%api.MaxRows)
	}
	rows := sample.Numbers(l...)
	for lo := range api.MaxRows {
		for hi := lo; hi < api.MaxRows; hi += 7 {
			k := sample.Col("k")
			q := sample.Asking(sample.Plain(k))
			q.Where = sample.Op(api.And, sample.Op(api.Le, sample.Lit(sample.Int(lo)), k), sample.Op(api.Le, k, sample.Lit(sample.Int(hi))))
			want := slices.DeleteFunc(slices.Clone(l), func(n int) bool { return n < lo || n > hi })
			if told, why := Run(sample.KeyColumn(), rows, q, "k"); !sample.SameRows(told, sample.Numbers(want...)) || why != api.OK {
				t.Fatalf("from %d to %d: %s (%d), want %d", lo, hi, written.Rows(told), why, want)
			}
		}
	}
}

package query

import (
	"math"
	"slices"
	"strconv"
	"testing"

	"chirograph/api"
	"chirograph/sample"
	"chirograph/written"
)

// asked: a query as it is written, and what is told, in lines.
type asked struct{ text, want string }

// mustTell of such rows.
func mustTell(t *testing.T, rows [][]api.Value, l []asked) {
	t.Helper()
	for _, a := range l {
		told, why := Run(sample.KeyedColumns(), rows, written.Query(a.text))
		if got := written.Rows(told); got != a.want || why != api.OK {
			t.Errorf("%s tells %s (%d), want %s", a.text, got, why, a.want)
		}
	}
}

// TestPlain: P14.1 and P14.3, of each row of which the condition holds, in their order.
func TestPlain(t *testing.T) {
	mustTell(t, sample.FiveRows(), []asked{
		{"x", "4; 1; 5; 2; 3"}, {"x , x", "4 4; 1 1; 5 5; 2 2; 3 3"}, {"t , b", "'b' true; 'b' true; '' true; 'a' -; - false"}, {"r", "0; 1.5; 1.5; -; -Inf"}, {"i", "7; 5; -; -; 5"},
		{"1", "1; 1; 1; 1; 1"}, {"NULL", "-; -; -; -; -"}, {"x + i", "11; 6; -; -; 8"}, {"x , i = 5 , LENGTH ( t ) , t || t", "4 false 1 'bb'; 1 true 1 'bb'; 5 - 0 ''; 2 - 1 'aa'; 3 true - -"},
		{"x WHERE b", "4; 1; 5"}, {"x WHERE NOT b", "3"}, {"x WHERE b IS NULL", "2"}, {"x WHERE i = 5", "1; 3"}, {"x WHERE i <> 5", "4"}, {"i WHERE x = 5", "-"},
		{"x WHERE TRUE", "4; 1; 5; 2; 3"}, {"x WHERE NULL", ""}, {"x WHERE FALSE", ""}, {"x WHERE COALESCE ( NULL , NULL )", ""},
		{"1 / ( x - 2 ) WHERE x <> 2", "0; -1; 0; 1"}, {"x WHERE x <> 1 AND 1 / ( x - 1 ) = 0", "4; 5; 3"}, {"1 / 0 WHERE FALSE", ""},
		{"- x , COALESCE ( t , 'none' ) , TRUE , #7ff0000000000000 WHERE x * x > 9", "-4 'b' true +Inf; -5 '' true +Inf"},
	})
	mustTell(t, nil, []asked{{"x", ""}, {"x WHERE TRUE", ""}, {"1 / 0", ""}, {"NULL", ""}, {"x WHERE 1 / 0 = 1", ""}})
	row := sample.FiveRows()[0]
	mustTell(t, [][]api.Value{row, row, row}, []asked{{"x", "4; 4; 4"}, {"x , t WHERE x = 4", "4 'b'; 4 'b'; 4 'b'"}})
}

// TestSums: P14.3, of all rows of which the condition holds, even if there are none.
func TestSums(t *testing.T) {
	mustTell(t, sample.FiveRows(), []asked{
		{"COUNT ( * )", "5"}, {"COUNT ( * ) , COUNT ( * )", "5 5"}, {"SUM ( x )", "15"}, {"COUNT ( * ) , SUM ( i ) , MIN ( i ) , MAX ( i )", "5 17 5 7"}, {"MAX ( i ) , MIN ( i ) , SUM ( i ) , COUNT ( * )", "7 5 17 5"},
		{"MIN ( t ) , MAX ( t )", "'' 'b'"}, {"MIN ( b ) , MAX ( b )", "false true"}, {"MIN ( r ) , MAX ( r )", "-Inf 1.5"}, {"MIN ( x ) , MAX ( x ) , SUM ( - x ) , SUM ( x * i )", "1 5 -15 48"},
		{"SUM ( NULL ) , MIN ( NULL ) , MAX ( NULL )", "- - -"}, {"SUM ( COALESCE ( NULL , NULL ) ) , SUM ( NULL + 1 )", "- -"}, {"SUM ( 1 ) , SUM ( 0 ) , MIN ( 'a' ) , MAX ( TRUE )", "5 0 'a' true"},
		{"COUNT ( * ) , SUM ( i ) WHERE x = 5", "1 -"}, {"COUNT ( * ) , SUM ( i ) , MAX ( b ) WHERE b", "3 12 true"}, {"COUNT ( * ) , MIN ( x ) , MAX ( x ) WHERE NULL", "0 - -"}, {"SUM ( x ) , SUM ( i ) WHERE FALSE", "- -"}, {"MAX ( x ) WHERE NOT b", "3"},
		{"SUM ( COALESCE ( i , 0 ) ) , MAX ( i IS NULL )", "17 true"}, {"MIN ( LENGTH ( t ) ) , SUM ( 6 / ( x - 3 ) ) WHERE b", "0 6"},
	})
	mustTell(t, nil, []asked{{"COUNT ( * )", "0"}, {"SUM ( x )", "-"}, {"MIN ( t ) , MAX ( r ) , COUNT ( * ) , SUM ( 1 )", "- - 0 -"}, {"MAX ( 1 / 0 )", "-"}})
	mustTell(t, [][]api.Value{sample.Row(sample.Int(-3), sample.Bool(0), sample.Int(0), sample.Null(), sample.Text("\u00e9"))}, []asked{
		{"COUNT ( * ) , SUM ( x ) , MIN ( x ) , MAX ( x )", "1 -3 -3 -3"}, {"SUM ( i ) , MIN ( i ) , MAX ( b ) , MIN ( t )", "0 0 false '\u00e9'"}, {"SUM ( x / 0 ) WHERE x > 0", "-"},
	})
}

// TestGroups: P14.3, a row for each group, in the order of their values, a null first; none of no rows.
func TestGroups(t *testing.T) {
	mustTell(t, sample.FiveRows(), []asked{
		{"b , COUNT ( * ) GROUP BY b", "- 1; false 1; true 3"}, {"COUNT ( * ) , b GROUP BY b", "1 -; 1 false; 3 true"}, {"COUNT ( * ) GROUP BY b", "1; 1; 3"}, {"r , COUNT ( * ) GROUP BY r", "- 1; -Inf 1; 0 1; 1.5 2"},
		{"t , t , COUNT ( * ) , t GROUP BY t", "- - 1 -; '' '' 1 ''; 'a' 'a' 1 'a'; 'b' 'b' 2 'b'"}, {"t , MIN ( x ) , MAX ( x ) , SUM ( i ) GROUP BY t", "- 3 3 5; '' 5 5 -; 'a' 2 2 -; 'b' 1 4 12"},
		{"i , SUM ( x ) , MIN ( t ) , MAX ( r ) GROUP BY i", "- 7 '' 1.5; 5 4 'b' 1.5; 7 4 'b' 0"}, {"x , COUNT ( * ) , SUM ( x ) , MAX ( i ) GROUP BY x", "1 1 1 5; 2 1 2 -; 3 1 3 5; 4 1 4 7; 5 1 5 -"},
		{"b , SUM ( i ) GROUP BY b", "- -; false 5; true 12"}, {"b , COUNT ( * ) WHERE x > 3 GROUP BY b", "true 2"}, {"b , COUNT ( * ) WHERE i IS NULL GROUP BY b", "- 1; true 1"}, {"b , COUNT ( * ) WHERE FALSE GROUP BY b", ""}, {"COUNT ( * ) , SUM ( x ) WHERE NULL GROUP BY t", ""},
		{"MAX ( b ) , MIN ( i ) , SUM ( i ) , MAX ( i ) GROUP BY i", "true - - -; true 5 10 5; true 7 7 7"}, {"i , MIN ( NULL ) , SUM ( NULL ) , MAX ( 'a' ) GROUP BY i", "- - - 'a'; 5 - - 'a'; 7 - - 'a'"}, {"i , SUM ( 1 / ( x - 5 ) ) WHERE x < 5 GROUP BY i", "- 0; 5 0; 7 -1"},
	})
	mustTell(t, nil, []asked{{"b , COUNT ( * ) GROUP BY b", ""}, {"COUNT ( * ) GROUP BY x", ""}, {"SUM ( 1 / 0 ) GROUP BY x", ""}})
	n := func(x, i int) []api.Value {
		return sample.Row(sample.Int(x), sample.Null(), sample.Int(i), sample.Null(), sample.Null())
	}
	mustTell(t, [][]api.Value{n(1, math.MaxInt), n(2, 0), n(3, math.MinInt), n(4, -1), n(5, math.MaxInt), n(6, 0)}, []asked{
		{"i , SUM ( x ) GROUP BY i", "-9223372036854775808 3; -1 4; 0 8; 9223372036854775807 6"},
	})
}

// TestGroupWithoutSums: P14.3, without sums a row is told for each row, in their order, with a Group, too.
func TestGroupWithoutSums(t *testing.T) {
	mustTell(t, sample.FiveRows(), []asked{
		{"i GROUP BY i", "7; 5; -; -; 5"}, {"t , t GROUP BY t", "'b' 'b'; 'b' 'b'; '' ''; 'a' 'a'; - -"}, {"i WHERE x < 5 GROUP BY i", "7; 5; -; 5"},
		{"b GROUP BY b ORDER BY 1", "-; false; true; true; true"}, {"i GROUP BY i ORDER BY 1 DESC LIMIT 2", "7; 5"}, {"x WHERE FALSE GROUP BY x", ""},
	})
}

// TestSorts: P14.4, by one sort behind the other, up or down; where all are the same they stand as they stood.
func TestSorts(t *testing.T) {
	mustTell(t, sample.FiveRows(), []asked{
		{"x ORDER BY 1", "1; 2; 3; 4; 5"}, {"x ORDER BY 1 DESC", "5; 4; 3; 2; 1"}, {"- x , x ORDER BY 1", "-5 5; -4 4; -3 3; -2 2; -1 1"},
		{"i , x ORDER BY 1", "- 5; - 2; 5 1; 5 3; 7 4"}, {"i , x ORDER BY 1 DESC", "7 4; 5 1; 5 3; - 5; - 2"}, {"i , x ORDER BY 1 , 2", "- 2; - 5; 5 1; 5 3; 7 4"}, {"i , x ORDER BY 1 , 2 DESC", "- 5; - 2; 5 3; 5 1; 7 4"},
		{"i , x ORDER BY 1 DESC , 2", "7 4; 5 1; 5 3; - 2; - 5"}, {"i , x ORDER BY 1 DESC , 2 DESC", "7 4; 5 3; 5 1; - 5; - 2"}, {"i , x ORDER BY 2 , 1", "5 1; - 2; 5 3; 7 4; - 5"}, {"i , x ORDER BY 2 DESC", "- 5; 7 4; 5 3; - 2; 5 1"},
		{"i , x ORDER BY 1 , 1 DESC", "- 5; - 2; 5 1; 5 3; 7 4"}, {"i , x ORDER BY 1 DESC , 1 , 1 , 2 DESC", "7 4; 5 3; 5 1; - 5; - 2"}, {"1 , x ORDER BY 1", "1 4; 1 1; 1 5; 1 2; 1 3"}, {"1 , x ORDER BY 1 DESC", "1 4; 1 1; 1 5; 1 2; 1 3"},
		{"t , x ORDER BY 1", "- 3; '' 5; 'a' 2; 'b' 4; 'b' 1"}, {"t , x ORDER BY 1 DESC", "'b' 4; 'b' 1; 'a' 2; '' 5; - 3"}, {"r , x ORDER BY 1", "- 2; -Inf 3; 0 4; 1.5 1; 1.5 5"}, {"b , x ORDER BY 1 DESC , 2", "true 1; true 4; true 5; false 3; - 2"}, {"b , i , r , x ORDER BY 1 , 2 , 3 , 4", "- - - 2; false 5 -Inf 3; true - 1.5 5; true 5 1.5 1; true 7 0 4"},
		{"x WHERE b ORDER BY 1", "1; 4; 5"}, {"COUNT ( * ) ORDER BY 1 DESC", "5"}, {"SUM ( x ) , MAX ( x ) ORDER BY 2 , 1", "15 5"}, {"SUM ( x ) WHERE FALSE ORDER BY 1", "-"},
		{"b , COUNT ( * ) GROUP BY b ORDER BY 2", "- 1; false 1; true 3"}, {"b , COUNT ( * ) GROUP BY b ORDER BY 2 DESC", "true 3; - 1; false 1"}, {"b , COUNT ( * ) GROUP BY b ORDER BY 2 , 1 DESC", "false 1; - 1; true 3"}, {"i , SUM ( x ) GROUP BY i ORDER BY 1 DESC", "7 4; 5 4; - 7"}, {"SUM ( x ) GROUP BY i ORDER BY 1", "4; 4; 7"}, {"i , SUM ( x ) GROUP BY i ORDER BY 2", "5 4; 7 4; - 7"},
	})
}

// TestCut: P14.4, the first ones behind all sorting, or all, if there are fewer.
func TestCut(t *testing.T) {
	mustTell(t, sample.FiveRows(), []asked{
		{"x LIMIT 0", ""}, {"x LIMIT 1", "4"}, {"x LIMIT 4", "4; 1; 5; 2"}, {"x LIMIT 5", "4; 1; 5; 2; 3"}, {"x LIMIT 6", "4; 1; 5; 2; 3"}, {"x LIMIT 9223372036854775807", "4; 1; 5; 2; 3"}, {"x LIMIT 256", "4; 1; 5; 2; 3"}, {"x LIMIT 4294967296", "4; 1; 5; 2; 3"},
		{"x ORDER BY 1 LIMIT 2", "1; 2"}, {"x ORDER BY 1 DESC LIMIT 2", "5; 4"}, {"i , x ORDER BY 1 LIMIT 1", "- 5"}, {"x WHERE NOT b LIMIT 3", "3"}, {"x WHERE b LIMIT 2", "4; 1"}, {"x WHERE FALSE LIMIT 2", ""},
		{"COUNT ( * ) LIMIT 0", ""}, {"COUNT ( * ) LIMIT 1", "5"}, {"SUM ( x ) LIMIT 7", "15"}, {"b , COUNT ( * ) GROUP BY b LIMIT 2", "- 1; false 1"}, {"b , COUNT ( * ) GROUP BY b ORDER BY 2 DESC LIMIT 1", "true 3"},
	})
}

// TestWideSums: P14.3, whatever the sum of some of them may be, in whichever order they come.
func TestWideSums(t *testing.T) {
	const lowest, highest = math.MinInt, math.MaxInt
	for _, c := range []struct {
		l    []int
		want int
		why  api.Errno
	}{
		{[]int{highest}, highest, 0}, {[]int{lowest}, lowest, 0}, {[]int{highest, lowest}, -1, 0}, {[]int{highest, 1}, 0, api.ErrRange}, {[]int{lowest, -1}, 0, api.ErrRange}, {[]int{highest, 1, -1}, highest, 0}, {[]int{lowest, -1, 1}, lowest, 0},
		{[]int{highest, highest, lowest, lowest}, -2, 0}, {[]int{highest, highest, lowest, -5}, highest - 6, 0}, {[]int{highest, highest, 2}, 0, api.ErrRange}, {[]int{lowest, lowest}, 0, api.ErrRange}, {[]int{lowest, lowest, lowest, lowest}, 0, api.ErrRange}, {[]int{lowest, lowest, highest, highest, 2}, 0, 0},
		{[]int{1 << 62, 1 << 62}, 0, api.ErrRange}, {[]int{1 << 62, 1<<62 - 1}, highest, 0}, {[]int{-1 << 62, -1 << 62}, lowest, 0}, {[]int{-1 << 62, -1<<62 - 1}, 0, api.ErrRange}, {[]int{1 << 62, 1 << 62, -1}, highest, 0}, {[]int{0, 0}, 0, 0}, {[]int{-1, 1}, 0, 0}, {[]int{-1, -1, -1}, -3, 0},
		{slices.Repeat([]int{highest}, api.MaxRows), 0, api.ErrRange}, {slices.Repeat([]int{lowest}, api.MaxRows), 0, api.ErrRange}, {slices.Repeat([]int{highest, lowest}, api.MaxRows/2), -api.MaxRows / 2, 0}, {slices.Concat(slices.Repeat([]int{highest}, 32), slices.Repeat([]int{-highest}, 32)), 0, 0},
	} {
		for turn := range len(c.l) {
			l := slices.Concat(c.l[turn:], c.l[:turn])
			for range 2 {
				told, why := Run(sample.KeyColumn(), sample.Numbers(l...), written.Query("SUM ( k )"))
				if c.why == api.OK && (written.Rows(told) != strconv.Itoa(c.want) || why != api.OK) || c.why != api.OK && (len(told) > 0 || why != c.why) {
					t.Errorf("the sum of %d is %s (%d), want %d (%d)", l, written.Rows(told), why, c.want, c.why)
				}
				slices.Reverse(l)
			}
		}
	}
}

// TestAllRows: P14.4, up to MaxRows rows.
func TestAllRows(t *testing.T) {
	var l []int
	for k := range api.MaxRows {
		l = append(l, k*37%api.MaxRows)
	}
	for text, want := range map[string]int{"k": 64, "COUNT ( * )": 1, "k , COUNT ( * ) GROUP BY k": 64, "k WHERE k < 10": 10, "k LIMIT 63": 63} {
		told, why := Run(sample.KeyColumn(), sample.Numbers(l...), written.Query(text))
		if len(told) != want || why != api.OK {
			t.Errorf("%s tells %d rows (%d), want %d", text, len(told), why, want)
		}
	}
	told, why := Run(sample.KeyColumn(), sample.Numbers(l...), written.Query("k ORDER BY 1"))
	for k, row := range told {
		if row[0].Int != k || why != api.OK {
			t.Errorf("the row %d is %d (%d)", k, row[0].Int, why)
		}
	}
}

// TestNoColumns: rows without values are rows, too.
func TestNoColumns(t *testing.T) {
	for text, want := range map[string]string{"COUNT ( * )": "3", "1 , 'a'": "1 'a'; 1 'a'; 1 'a'", "SUM ( 2 )": "6", "1 WHERE FALSE": ""} {
		told, why := Run(nil, [][]api.Value{nil, {}, nil}, written.Query(text))
		if written.Rows(told) != want || why != api.OK {
			t.Errorf("%s tells %s (%d), want %s", text, written.Rows(told), why, want)
		}
	}
}

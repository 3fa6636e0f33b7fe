package span

import (
	"math"
	"reflect"
	"slices"
	"testing"

	"chirograph/api"
	"chirograph/expr"
	"chirograph/sample"
	"chirograph/written"
)

// mustLeave just these numbers to a column.
func mustLeave(t *testing.T, lo, hi int, e api.Expr, col string) {
	t.Helper()
	if r, why := Of(e, col); r != (api.Range{Lo: lo, Hi: hi}) || why != api.OK {
		t.Errorf("Of(%+v, %q) = %+v %d, want {%d %d} 0", e, col, r, why, lo, hi)
	}
}

// The ends of all numbers.
const (
	lowest  = math.MinInt
	highest = math.MaxInt
)

// ends of a range.
type ends struct{ lo, hi int }

// TestComparisons: P11.1, each with a NUMBER, on whichever side, and at the ends of all numbers.
func TestComparisons(t *testing.T) {
	for text, want := range map[string]ends{
		"k = 3": {3, 3}, "k < 3": {lowest, 2}, "k <= 3": {lowest, 3}, "k > 3": {4, highest}, "k >= 3": {3, highest},
		"3 = k": {3, 3}, "3 < k": {4, highest}, "3 <= k": {3, highest}, "3 > k": {lowest, 2}, "3 >= k": {lowest, 3},
		"k = - 3": {-3, -3}, "k < - 3": {lowest, -4}, "k <= - 3": {lowest, -3}, "k > - 3": {-2, highest}, "k >= - 3": {-3, highest},
		"- 3 = k": {-3, -3}, "- 3 < k": {-2, highest}, "- 3 <= k": {-3, highest}, "- 3 > k": {lowest, -4}, "- 3 >= k": {lowest, -3},
		"k = 0": {0, 0}, "k < 0": {lowest, -1}, "k <= 0": {lowest, 0}, "k > 0": {1, highest}, "k >= 0": {0, highest},
		"k = - 0": {0, 0}, "k < - 0": {lowest, -1}, "k > - 0": {1, highest}, "- 0 >= k": {lowest, 0},
		"k > - 1": {0, highest}, "k < 1": {lowest, 0}, "k <= - 1": {lowest, -1}, "k >= 1": {1, highest},
		"k = 9223372036854775807": {highest, highest}, "k < 9223372036854775807": {lowest, highest - 1}, "k <= 9223372036854775807": {lowest, highest}, "k > 9223372036854775807": {1, 0}, "k >= 9223372036854775807": {highest, highest},
		"9223372036854775807 = k": {highest, highest}, "9223372036854775807 < k": {1, 0}, "9223372036854775807 <= k": {highest, highest}, "9223372036854775807 > k": {lowest, highest - 1}, "9223372036854775807 >= k": {lowest, highest},
		"k > 9223372036854775806": {highest, highest}, "9223372036854775806 < k": {highest, highest}, "k < 9223372036854775806": {lowest, highest - 2},
		"k = - 9223372036854775807": {lowest + 1, lowest + 1}, "k < - 9223372036854775807": {lowest, lowest}, "k <= - 9223372036854775807": {lowest, lowest + 1}, "k > - 9223372036854775807": {lowest + 2, highest}, "k >= - 9223372036854775807": {lowest + 1, highest},
		"- 9223372036854775807 > k": {lowest, lowest}, "- 9223372036854775807 >= k": {lowest, lowest + 1}, "- 9223372036854775807 < k": {lowest + 2, highest}, "- 9223372036854775807 <= k": {lowest + 1, highest},
	} {
		mustLeave(t, want.lo, want.hi, written.Expr(text), "k")
		mustLeave(t, lowest, highest, written.Expr(text), "a")
	}
}

// TestAnd: P11.1, the numbers that both parts leave.
func TestAnd(t *testing.T) {
	for text, want := range map[string]ends{
		"k > 3 AND 9 >= k": {4, 9}, "9 >= k AND k > 3": {4, 9}, "k = 1 AND k = 2": {1, 0}, "k = 2 AND k = 1": {1, 0}, "k = 2 AND k = 2": {2, 2},
		"k > 3 AND k > 5": {6, highest}, "k > 5 AND k > 3": {6, highest}, "k < 3 AND k < 5": {lowest, 2}, "k < 5 AND k < 3": {lowest, 2},
		"k > 3 AND k < 5": {4, 4}, "k > 3 AND k < 4": {1, 0}, "k > 3 AND k <= 4": {4, 4}, "k >= 4 AND k < 4": {1, 0}, "k >= 4 AND k <= 4": {4, 4}, "k > 5 AND k < 3": {1, 0},
		"k = 4 AND k <= 4": {4, 4}, "k = 4 AND k < 4": {1, 0}, "k = 4 AND 3 < k": {4, 4}, "k = 4 AND 4 < k": {1, 0}, "k <= 0 AND k >= 1": {1, 0}, "k <= 1 AND k >= 0": {0, 1}, "k < - 9 AND k < 9": {lowest, -10},
		"k > 9223372036854775807 AND k = 0": {1, 0}, "k = 1 AND k > 9223372036854775807": {1, 0}, "k > 9223372036854775807 AND k > 9223372036854775807": {1, 0},
		"k < - 9223372036854775807 AND k <= - 5": {lowest, lowest}, "k > 9223372036854775806 AND k > 1": {highest, highest}, "k <= 9223372036854775807 AND k > - 5": {-4, highest},
		"k = 1 AND k = 2 AND k > 0": {1, 0}, "k > 0 AND ( k = 1 AND k = 2 )": {1, 0}, "k = 1 AND k = 2 AND a = 3": {1, 0}, "k = 1 AND k = 2 AND ( k = 1 AND k = 2 )": {1, 0}, "k = 1 AND k = 2 AND 1 = 1": {1, 0},
		"k > 1 AND k > 2 AND k < 9 AND k < 8": {3, 7}, "k > 1 AND ( k > 2 AND ( k < 9 AND k < 8 ) )": {3, 7}, "( k > 1 AND k < 9 ) AND ( k > 2 AND k < 8 )": {3, 7},
		"k > 3 AND a > 5": {4, highest}, "a < 3 AND 5 > k": {lowest, 4}, "- 2 < k AND a = 1": {-1, highest}, "( k = 1 OR k = 2 ) AND k > 1": {2, highest}, "NOT k = 1 AND k <= 1": {lowest, 1}, "3 AND k > 3": {4, highest}, "k > 3 AND 'x'": {4, highest},
		"a = 1 AND b = 2": {lowest, highest}, "a = 1 AND a = 2": {lowest, highest}, "TRUE AND FALSE": {lowest, highest},
	} {
		mustLeave(t, want.lo, want.hi, written.Expr(text), "k")
	}
}

// joined by And: the parts ahead of a place that hangs on their number with those behind it.
func joined(parts []api.Expr, place func(n int) int) api.Expr {
	n := len(parts)
	if n == 1 {
		return parts[0]
	}
	return sample.Op(api.And, joined(parts[:place(n)], place), joined(parts[place(n):], place))
}

// TestEachPlace: P11.1, one part, of as many as may be joined so, says something of the column, in each place.
func TestEachPlace(t *testing.T) {
	shapes := []struct {
		most  int
		place func(n int) int
	}{
		{6, func(n int) int { return 1 }},
		{6, func(n int) int { return n - 1 }},
		{10, func(n int) int { return n / 2 }},
	}
	for _, shape := range shapes {
		parts := slices.Repeat([]api.Expr{written.Expr("a = 8")}, shape.most)
		for i := range parts {
			l := slices.Clone(parts)
			l[i] = written.Expr("k = 7")
			mustLeave(t, 7, 7, joined(l, shape.place), "k")
		}
		if why := expr.Check(joined(append(parts, parts[0]), shape.place)); why != api.ErrSize {
			t.Errorf("there may be more than %d parts: %d", shape.most, why)
		}
	}
}

// others: conditions that are neither an And nor a comparison of the column k with a NUMBER.
func others() []string {
	return []string{
		"k <> 3", "3 <> k", "k <> - 3", "- 3 <> k",
		"a = 3", "3 > a", "kk = 3", "k_ = 3", "k1 < 3", "k = a", "a < k", "k = k", "k >= k", "3 = 3", "3 = 4", "- 3 < 3", "4 < 3",
		"k = 1 OR k = 2", "k = 1 OR k = 1", "k = 1 OR FALSE", "NOT k = 1", "NOT k > 1", "NOT NOT k = 1", "NOT ( k = 1 AND k = 2 )", "k = 1 AND k = 2 OR FALSE", "FALSE OR k = 1 AND k = 2",
		"k = - - 3", "- - - 3 = k", "- k = 3", "3 < - k", "k = 1 + 2", "k = 3 + 0", "1 + 2 > k", "k = - ( 1 + 2 )", "k + 0 = 3", "k * 1 = 3", "k - 1 < 3", "k < LENGTH ( 'xxx' )", "LENGTH ( 'xxx' ) = k", "k = COALESCE ( 3 , 3 )", "COALESCE ( k , 3 ) = 3", "COALESCE ( 3 , k ) = k",
		"k = NULL", "NULL = k", "k < NULL", "NULL < k", "k = - NULL", "- NULL >= k", "k = TRUE", "TRUE = k", "k > FALSE", "k = - TRUE", "- FALSE = k", "k = '3'", "'3' < k", "k = ''", "k = - '3'", "k = #0000000000000000", "#4008000000000000 > k", "k < - #4008000000000000",
		"k IS NULL", "( k = 1 ) IS NULL", "( k = 1 ) = TRUE", "( k = 1 AND k = 2 ) = TRUE", "( k = 1 ) = ( k = 2 )", "COALESCE ( k = 1 , k = 1 )", "COALESCE ( k = 1 AND k = 2 , TRUE )", "- ( k = 1 )", "( k = 1 ) + ( k = 1 )", "LENGTH ( k = 1 )", "( k = 1 ) || 'x'",
		"k", "3", "- 3", "0", "NULL", "TRUE", "FALSE", "'k = 3'", "''", "#bff0000000000000", "k + 3", "k - 3", "k * 3", "k / 3", "- k", "LENGTH ( k )", "k || 3", "COALESCE ( k , 3 )", "k OR 3", "NOT k", "1 / 0 = 3",
	}
}

// TestAllElse: P11.1, of all else it is all numbers, alone and beside what leaves fewer.
func TestAllElse(t *testing.T) {
	within := written.Expr("k > 3 AND k < 9")
	for _, text := range others() {
		e := written.Expr(text)
		mustLeave(t, lowest, highest, e, "k")
		mustLeave(t, 4, 8, sample.Op(api.And, e, within), "k")
		mustLeave(t, 4, 8, sample.Op(api.And, within, e), "k")
		mustLeave(t, lowest, highest, sample.Op(api.And, e, e), "k")
		mustLeave(t, lowest, highest, sample.Op(api.Or, within, within), "k")
	}
}

// TestNames: P11.1, a column has its whole name alone; a name that no column can have is not refused.
func TestNames(t *testing.T) {
	names := []string{"k", "kk", "k_", "k1", "null", "abcdefgh", sample.Long(api.MaxName)}
	for _, name := range names {
		e := sample.Op(api.Lt, sample.Lit(sample.Int(3)), sample.Col(name))
		for _, asked := range slices.Concat(names, sample.WrongNames()) {
			if asked == name {
				mustLeave(t, 4, highest, e, asked)
				continue
			}
			mustLeave(t, lowest, highest, e, asked)
		}
	}
	for _, name := range sample.WrongNames() {
		for _, text := range []string{"3 = 4", "3 < 3", "TRUE = 3", "NULL > 3", "'' = 3", "'A' = 3", "3 > #0000000000000000", "a = 3 AND b = 3", "- a < 3", "LENGTH ( '' ) = 3"} {
			mustLeave(t, lowest, highest, written.Expr(text), name)
		}
	}
}

// TestRefuses: P11.1, what expr's Check refuses, wherever it stands, with nothing else told.
func TestRefuses(t *testing.T) {
	empty, one := written.Expr("k = 1 AND k = 2"), written.Expr("k = 1")
	for want, l := range sample.WrongExprs() {
		for _, e := range l {
			for _, whole := range []api.Expr{e, sample.Op(api.And, empty, e), sample.Op(api.And, one, e), sample.Op(api.And, e, one), sample.Op(api.Or, one, e), sample.Op(api.Lt, sample.Col("k"), e)} {
				if why := expr.Check(whole); why != want {
					t.Fatalf("expr.Check(%+v) = %d, want %d", whole, why, want)
				}
				for _, name := range []string{"k", "a", "", "A", sample.Long(1000)} {
					if r, why := Of(whole, name); r != (api.Range{}) || why != want {
						t.Errorf("Of(%+v, %q) = %+v %d, want none %d", whole, name, r, why, want)
					}
				}
			}
		}
	}
}

// TestListsStayAsTheyAre: what is handed in is not changed, its spare room neither.
func TestListsStayAsTheyAre(t *testing.T) {
	for _, text := range []string{"k > 3 AND - 9 <= k", "9 >= k AND ( a = 1 AND k < 9223372036854775807 )", "k = 1 AND k = 2 OR k = 3", "k <> 3"} {
		l := sample.Roomy([]api.Expr{written.Expr(text)})
		before := sample.WholeOf(l)
		for _, name := range []string{"k", "a", "spare"} {
			Of(l[0], name)
		}
		if !reflect.DeepEqual(sample.WholeOf(l), before) {
			t.Errorf("%s was changed", text)
		}
	}
}

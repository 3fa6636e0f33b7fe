package span

import (
	"math/rand"
	"regexp"
	"slices"
	"strconv"
	"strings"
	"testing"

	"chirograph/api"
	"chirograph/eval"
	"chirograph/expr"
	"chirograph/lex"
	"chirograph/sample"
)

// comparisonOf a column with a NUMBER, as it is written.
func comparisonOf(col string) *regexp.Regexp {
	const sign, number = `(?:=|<|<=|>|>=)`, `((?:- )?[0-9]+)`
	return regexp.MustCompile(`^(?:` + col + ` ` + sign + ` ` + number + `|` + number + ` ` + sign + ` ` + col + `)$`)
}

// beginning of an expression as it is written: more tokens than a comparison with a NUMBER has, if there are so many. All of them may be more than a text has room for.
func beginning(e api.Expr) string {
	tokens, why := expr.Show(e)
	text, f := lex.Show(tokens[:min(len(tokens), 5)])
	if why != api.OK || f != api.OK {
		panic("an expression that can't be shown")
	}
	return text
}

// second way of saying what P11.1 does, of a column that may be: a range begins and ends only at a NUMBER, beside one, or where all numbers do; of these it is asked, by eval, whether all comparisons hold that are written between ANDs.
func second(e api.Expr, col string) api.Range {
	comparisons, asked := []api.Expr{}, []int{lowest, highest}
	pattern := comparisonOf(col)
	for _, part := range betweenAnds(e) {
		if found := pattern.FindStringSubmatch(beginning(part)); found != nil {
			comparisons = append(comparisons, part)
			asked = append(asked, around(found[1]+found[2])...)
		}
	}
	asked = slices.DeleteFunc(asked, func(n int) bool {
		return slices.ContainsFunc(comparisons, func(c api.Expr) bool { return !holds(c, col, n) })
	})
	if len(asked) == 0 {
		return api.Range{Lo: 1, Hi: 0}
	}
	return api.Range{Lo: slices.Min(asked), Hi: slices.Max(asked)}
}

// betweenAnds: the parts of a condition.
func betweenAnds(e api.Expr) []api.Expr {
	if e.Op != api.And {
		return []api.Expr{e}
	}
	return slices.Concat(betweenAnds(e.Args[0]), betweenAnds(e.Args[1]))
}

// around a number that is written: it and those beside it.
func around(text string) []int {
	n, err := strconv.Atoi(strings.ReplaceAll(text, " ", ""))
	if err != nil {
		panic(err)
	}
	l := []int{n}
	if n > lowest {
		l = append(l, n-1)
	}
	if n < highest {
		l = append(l, n+1)
	}
	return l
}

// holds tells whether a condition on one column is true of a number.
func holds(e api.Expr, col string, n int) bool {
	v, why := eval.Eval(e, []api.Column{sample.Filled(col, api.Int)}, []api.Value{sample.Int(n)})
	if why != api.OK {
		panic(why)
	}
	return v == sample.Bool(1)
}

// mustAgree with the second way.
func mustAgree(t *testing.T, e api.Expr, col string) api.Range {
	t.Helper()
	want := second(e, col)
	if r, why := Of(e, col); r != want || why != api.OK {
		t.Errorf("Of(%+v, %q) = %+v %d, want %+v 0", e, col, r, why, want)
	}
	return want
}

// TestEachTwo: P11.1, each comparison with each of some numbers, on both sides, alone and beside each other one.
func TestEachTwo(t *testing.T) {
	var l []api.Expr
	for _, n := range []int{lowest + 1, lowest + 2, -2, -1, 0, 1, 2, highest - 1, highest} {
		for _, op := range sample.Comparisons() {
			l = append(l, sample.Op(op, sample.Col("k"), sample.NumberOf(n)), sample.Op(op, sample.NumberOf(n), sample.Col("k")))
		}
	}
	for _, a := range l {
		mustAgree(t, a, "k")
		mustAgree(t, a, "a")
		for _, b := range l {
			mustAgree(t, sample.Op(api.And, a, b), "k")
		}
	}
}

// within tells whether a column's value is a number of a range; a null is within all numbers alone.
func within(v api.Value, r api.Range) bool {
	if v == sample.Null() {
		return r == api.Range{Lo: lowest, Hi: highest}
	}
	return r.Lo <= v.Int && v.Int <= r.Hi
}

// TestManyConditions: P11.1, of many large conditions; and what comes of it: where one is true the column's number is within its range.
func TestManyConditions(t *testing.T) {
	chance := rand.New(rand.NewSource(11))
	counts := map[string]int{}
	for range 20000 {
		e := sample.Condition(chance.Intn, 2+chance.Intn(api.MaxDepth-1))
		if expr.Check(e) != api.OK {
			continue
		}
		i, x := mustAgree(t, e, "i"), mustAgree(t, e, "x")
		switch i {
		case api.Range{Lo: lowest, Hi: highest}:
			counts["all"]++
		case api.Range{Lo: 1, Hi: 0}:
			counts["none"]++
		default:
			counts["some"]++
		}
		for _, row := range sample.RowsNear(chance.Intn, 10, i, x) {
			v, _ := eval.Eval(e, sample.Columns(), row)
			if v != sample.Bool(1) {
				continue
			}
			counts["true"]++
			if !within(row[sample.PlaceOfI], i) || !within(row[sample.PlaceOfX], x) {
				t.Errorf("%+v is true of %+v, and leaves %+v and %+v", e, row, i, x)
			}
		}
	}
	for _, name := range []string{"all", "none", "some", "true"} {
		if counts[name] < 1000 {
			t.Errorf("of conditions there were %v", counts)
		}
	}
}

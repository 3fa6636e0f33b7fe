package eval

import (
	"math/rand"
	"reflect"
	"testing"

	"chirograph/api"
	"chirograph/expr"
	"chirograph/sample"
	"chirograph/written"
)

// fold an expression that may be.
func fold(t *testing.T, e api.Expr) api.Expr {
	t.Helper()
	folded, why := Fold(e)
	if why != api.OK {
		t.Fatalf("Fold(%+v) = %d", e, why)
	}
	if why := expr.Check(folded); why != api.OK {
		t.Errorf("Fold(%+v) = %+v, which may not be: %d", e, folded, why)
	}
	return folded
}

// TestFoldTexts: P10.4, of expressions as they are written.
func TestFoldTexts(t *testing.T) {
	for text, want := range map[string]string{
		"a + ( 2 * 3 )": "a + 6", "- 5": "- 5", "2 - 3 + a": "2 - 3 + a", "1 / 0": "1 / 0", "COALESCE ( 1 , a )": "COALESCE ( 1 , a )",
		"a": "a", "1": "1", "NULL": "NULL", "TRUE": "TRUE", "'it''s'": "'it''s'", "#bff0000000000000": "#bff0000000000000",
		"a + 2 * 3": "a + 6", "2 * 3 + a": "6 + a", "a + 2 + 3": "a + 2 + 3", "2 + 3 + a": "5 + a", "a * ( b - ( 4 - 1 ) )": "a * ( b - 3 )",
		"- 0": "0", "- - 5": "- - 5", "3 - 3": "0", "3 - 4": "3 - 4", "( 3 - 4 ) * 0": "( 3 - 4 ) * 0", "5 + - 5": "5 + - 5", "0 * - 1": "0 * - 1", "( 3 - 4 ) * ( 2 + 2 )": "( 3 - 4 ) * 4", "- ( 3 - 2 )": "- 1", "- ( 3 - 3 )": "0",
		"9223372036854775807 + 0": "9223372036854775807", "9223372036854775807 + 1": "9223372036854775807 + 1", "4611686018427387904 * 2": "4611686018427387904 * 2", "7 / 2": "3", "0 / 7": "0", "7 / ( 1 - 1 )": "7 / 0",
		"- 5 < 3": "- 5 < 3", "3 - 4 = 3 - 4": "3 - 4 = 3 - 4", "( - 5 ) IS NULL": "- 5 IS NULL", "COALESCE ( - 5 , 1 )": "COALESCE ( - 5 , 1 )", "COALESCE ( NULL , - 5 )": "COALESCE ( NULL , - 5 )",
		"NULL + 1": "NULL", "- NULL": "NULL", "NULL / 0": "NULL", "1 / 0 + NULL": "1 / 0 + NULL", "NULL = 'x'": "NULL", "NULL IS NULL": "TRUE", "1 IS NULL": "FALSE", "a IS NULL": "a IS NULL", "( 1 / 0 ) IS NULL": "1 / 0 IS NULL", "NULL + 1 IS NULL": "TRUE",
		"1 = 'x'": "1 = 'x'", "1 = 2 - 1": "TRUE", "1 < 1": "FALSE", "'ab' < 'b'": "TRUE", "#0000000000000000 < #bff0000000000000": "FALSE",
		"NOT TRUE": "FALSE", "NOT NULL": "NULL", "NOT 1": "NOT 1", "TRUE AND NULL": "NULL", "FALSE AND 1": "FALSE", "TRUE AND 1": "TRUE AND 1", "1 AND FALSE": "1 AND FALSE", "TRUE OR 'x'": "TRUE", "NULL OR TRUE": "TRUE",
		"FALSE AND a": "FALSE AND a", "a AND FALSE": "a AND FALSE", "TRUE OR a": "TRUE OR a", "FALSE AND 1 / 0 = 1": "FALSE AND 1 / 0 = 1", "FALSE AND ( 2 = 1 + 1 )": "FALSE", "TRUE AND a AND 1 = 1": "TRUE AND a AND TRUE",
		"COALESCE ( 1 , 2 )": "1", "COALESCE ( NULL , 2 )": "2", "COALESCE ( NULL , NULL )": "NULL", "COALESCE ( 1 , 'x' )": "1", "COALESCE ( NULL , a )": "COALESCE ( NULL , a )", "COALESCE ( 1 , 1 / 0 )": "COALESCE ( 1 , 1 / 0 )", "COALESCE ( 1 + 1 , 1 / 0 )": "COALESCE ( 2 , 1 / 0 )",
		"LENGTH ( '\u00e9' || 'a' )": "2", "LENGTH ( 1 )": "LENGTH ( 1 )", "LENGTH ( a || '' )": "LENGTH ( a || '' )", "'a' || 'b' || a": "'ab' || a", "a || 'a' || 'b'": "a || 'a' || 'b'", "'a' || 1": "'a' || 1",
		"'xxxxxxxxxxxxxxxxxxxx' || 'xxxxxxxxxxxxxxxxxxxx'": "'xxxxxxxxxxxxxxxxxxxxxxxxxxxxxxxxxxxxxxxx'", "'xxxxxxxxxxxxxxxxxxxx' || 'xxxxxxxxxxxxxxxxxxxxx'": "'xxxxxxxxxxxxxxxxxxxx' || 'xxxxxxxxxxxxxxxxxxxxx'",
	} {
		if got := written.Text(fold(t, written.Expr(text))); got != want {
			t.Errorf("Fold of %s is %s, want %s", text, got, want)
		}
	}
}

// TestFoldRefuses: P10.4, what expr's Check refuses, with nothing else told.
func TestFoldRefuses(t *testing.T) {
	for want, l := range sample.WrongExprs() {
		for _, e := range l {
			if folded, why := Fold(e); !reflect.DeepEqual(folded, api.Expr{}) || why != want {
				t.Errorf("Fold(%+v) = %+v %d, want none %d", e, folded, why, want)
			}
		}
	}
}

// rewritten says what P10.4 does in another way: as long as any operation can be, whichever, it is made the literal that the second way says it is.
func rewritten(chance *rand.Rand, e api.Expr) api.Expr {
	e = sample.CopyOf(e)
	for {
		l := sample.Behind(&e)
		chance.Shuffle(len(l), func(i, j int) { l[i], l[j] = l[j], l[i] })
		changed := false
		for _, part := range l {
			if v, ok := spoken(*part); ok {
				*part = sample.Lit(v)
				changed = true
				break
			}
		}
		if !changed {
			return e
		}
	}
}

// spoken: the value of an operation all of whose parts are literals, if a literal may have it.
func spoken(e api.Expr) (api.Value, bool) {
	if len(e.Args) == 0 {
		return api.Value{}, false
	}
	for _, part := range e.Args {
		if part.Op != api.Lit {
			return api.Value{}, false
		}
	}
	v, why := second{}.eval(e)
	return v, why == api.OK && v.Int >= 0
}

// mustFoldAs the other way does; and what is folded says the same in each row.
func mustFoldAs(t *testing.T, chance *rand.Rand, e api.Expr) {
	t.Helper()
	folded := fold(t, e)
	if want := rewritten(chance, e); !reflect.DeepEqual(folded, want) {
		t.Errorf("Fold(%+v) = %+v, want %+v", e, folded, want)
	}
	for _, row := range sample.Rows(chance.Intn, 3) {
		v, why := Eval(e, sample.Columns(), row)
		if w, f := Eval(folded, sample.Columns(), row); w != v || f != why {
			t.Errorf("%+v says %+v %d in %+v, and folded %+v %d", e, v, why, row, w, f)
		}
	}
	if again := fold(t, folded); !reflect.DeepEqual(again, folded) {
		t.Errorf("Fold(%+v) = %+v, though it was folded", folded, again)
	}
}

// TestFoldEachOperation: P10.4, each operation on each two literals.
func TestFoldEachOperation(t *testing.T) {
	chance := rand.New(rand.NewSource(4))
	for _, v := range allValues() {
		if v.Int < 0 {
			continue
		}
		a := sample.Lit(v)
		mustFoldAs(t, chance, a)
		for _, op := range sample.OnOne() {
			mustFoldAs(t, chance, sample.Op(op, a))
		}
		for _, op := range sample.OnTwo() {
			for _, w := range allValues() {
				if w.Int >= 0 {
					mustFoldAs(t, chance, sample.Op(op, a, sample.Lit(w)))
				}
			}
			for _, other := range []api.Expr{sample.Col("i"), sample.Op(api.Neg, sample.Lit(sample.Int(5))), written.Expr("1 / 0")} {
				mustFoldAs(t, chance, sample.Op(op, a, other))
				mustFoldAs(t, chance, sample.Op(op, other, a))
			}
		}
	}
}

// withLiterals: an expression in which most columns are made literals, by chance.
func withLiterals(chance *rand.Rand, e api.Expr) api.Expr {
	e = sample.CopyOf(e)
	for _, part := range sample.Behind(&e) {
		if part.Op == api.Col && chance.Intn(4) > 0 {
			values := sample.ValuesOf(chance.Intn(api.Text + 1))
			for _, c := range sample.Columns() {
				if c.Name == part.Name {
					values = sample.ValuesOf(c.Kind)
				}
			}
			if v := values[chance.Intn(len(values))]; v.Int >= 0 {
				*part = sample.Lit(v)
			}
		}
	}
	return e
}

// TestFoldMany: P10.4, of many large expressions.
func TestFoldMany(t *testing.T) {
	chance := rand.New(rand.NewSource(14))
	for range 8000 {
		e := withLiterals(chance, sample.Grown(chance.Intn, 2+chance.Intn(api.MaxDepth-1), chance.Intn(api.Text+1)))
		if expr.Check(e) == api.OK {
			mustFoldAs(t, chance, e)
		}
	}
}

// note each place of memory that the lists of an expression have, spare room too: how often it is theirs.
func note(e api.Expr, places map[*api.Expr]int) {
	for i := range e.Args[:cap(e.Args)] {
		places[&e.Args[:cap(e.Args)][i]]++
	}
	for _, part := range e.Args {
		note(part, places)
	}
}

// TestFoldIsNewMemory: what comes out shares no list with what was handed in, nor with another answer, nor within itself.
func TestFoldIsNewMemory(t *testing.T) {
	twins := []api.Expr{written.Expr("a + 1"), written.Expr("a + 1")}
	shared := sample.Op(api.Coalesce, sample.Op(api.Mul, twins...), sample.Op(api.Mul, twins...))
	leaf := sample.Col("a")
	leaf.Args = twins[:0]
	for _, e := range []api.Expr{shared, leaf, written.Expr("- ( 2 - 3 )"), written.Expr("a AND ( b OR 1 = 1 )"), sample.Roomy([]api.Expr{written.Expr("a + 2 * 3")})[0], sample.Roomy([]api.Expr{sample.Lit(sample.Int(1))})[0]} {
		handed, places := map[*api.Expr]int{}, map[*api.Expr]int{}
		note(e, handed)
		note(fold(t, e), places)
		note(fold(t, e), places)
		for p, n := range places {
			if n > 1 || handed[p] > 0 {
				t.Errorf("Fold of %+v shares memory", e)
			}
		}
	}
}

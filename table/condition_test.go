package table

import (
	"testing"

	"chirograph/api"
	"chirograph/sample"
	"chirograph/written"
)

// noneAtAll: no expression at all, in each way.
func noneAtAll() []api.Expr {
	return []api.Expr{{}, {Args: []api.Expr{}}}
}

// mustRefuseCondition: what Condition refuses Holds does, too, whatever the row is.
func mustRefuseCondition(t *testing.T, want api.Errno, e api.Expr, cols []api.Column) {
	t.Helper()
	if why := Condition(e, cols); why != want {
		t.Errorf("Condition(%+v, %+v) = %d, want %d", e, cols, why, want)
	}
	for _, row := range [][]api.Value{nil, make([]api.Value, len(cols)), {{Kind: 77}}} {
		if ok, why := Holds(e, cols, row); ok || why != want {
			t.Errorf("Holds(%+v, %+v, %+v) = %t %d, want none %d", e, cols, row, ok, why, want)
		}
	}
}

// TestConditionTakes: P13.4, no expression at all, and what is a bool or a null; columns may be none.
func TestConditionTakes(t *testing.T) {
	for _, cols := range [][]api.Column{nil, {}, sample.KeyColumn(), sample.Columns(), sample.FilledColumns()} {
		for _, e := range noneAtAll() {
			if why := Condition(e, cols); why != api.OK {
				t.Errorf("Condition(%#v, %+v) = %d", e, cols, why)
			}
		}
		for _, text := range []string{"TRUE", "FALSE", "NULL", "1 = 1", "NOT NULL", "NULL AND NULL", "1 IS NULL", "COALESCE ( NULL , NULL )", "COALESCE ( NULL , FALSE )", "1 / 0 = 1"} {
			if why := Condition(written.Expr(text), cols); why != api.OK {
				t.Errorf("Condition(%s, %+v) = %d", text, cols, why)
			}
		}
	}
	for _, text := range []string{"b", "NOT b", "i = x", "t < 'a' OR r IS NULL", "COALESCE ( b , i = 1 )", "COALESCE ( b , NULL )"} {
		if why := Condition(written.Expr(text), sample.Columns()); why != api.OK {
			t.Errorf("Condition(%s) = %d", text, why)
		}
	}
}

// TestConditionRefuses: P13.4, what kinds' Of refuses, then any other Kind; of no expression at all what Columns refuses.
func TestConditionRefuses(t *testing.T) {
	for text, want := range map[string]api.Errno{
		"i": api.ErrKind, "t": api.ErrKind, "r": api.ErrKind, "1": api.ErrKind, "'TRUE'": api.ErrKind, "- i": api.ErrKind, "NULL + NULL": api.ErrKind, "t || t": api.ErrKind, "LENGTH ( NULL )": api.ErrKind, "COALESCE ( i , NULL )": api.ErrKind, "COALESCE ( NULL , #0000000000000000 )": api.ErrKind,
		"i = t": api.ErrKind, "NOT i": api.ErrKind, "b AND 1": api.ErrKind, "y": api.ErrNone, "y = 1": api.ErrNone, "b AND y": api.ErrNone, "i + t = y": api.ErrKind, "y = i + t": api.ErrNone,
	} {
		mustRefuseCondition(t, want, written.Expr(text), sample.Columns())
	}
	for want, l := range sample.WrongExprs() {
		for _, e := range l {
			if e.Op == 0 && len(e.Args) == 0 {
				continue // that is none at all
			}
			mustRefuseCondition(t, want, e, sample.Columns())
			mustRefuseCondition(t, want, e, []api.Column{{}, {}})
		}
	}
	for want, l := range sample.WrongColumns() {
		for _, cols := range l {
			for _, e := range append(noneAtAll(), written.Expr("TRUE"), written.Expr("1"), written.Expr("y")) {
				mustRefuseCondition(t, want, e, cols)
			}
		}
	}
}

// TestAlmostNone: P13.4, Op 0 with anything else is an expression that may not be, not none at all.
func TestAlmostNone(t *testing.T) {
	for _, e := range []api.Expr{
		{Name: "a"}, {Name: "A"}, {Value: sample.Bool(1)}, {Value: sample.Int(1)}, {Value: api.Value{Int: 1}}, {Value: api.Value{Bits: 1}}, {Value: api.Value{Text: "a"}},
		{Args: make([]api.Expr, 1)}, {Args: []api.Expr{written.Expr("TRUE")}},
	} {
		mustRefuseCondition(t, api.ErrKind, e, sample.Columns())
		mustRefuseCondition(t, api.ErrKind, e, make([]api.Column, api.MaxCols+1))
	}
	mustRefuseCondition(t, api.ErrSize, api.Expr{Args: make([]api.Expr, api.MaxNodes)}, sample.Columns())
}

// TestHolds: P13.4, where it is true; where it is null it does not hold.
func TestHolds(t *testing.T) {
	row := sample.Row(sample.Bool(1), sample.Int(7), sample.Null(), sample.Text("a"), sample.Int(-1))
	for text, want := range map[string]bool{
		"TRUE": true, "FALSE": false, "NULL": false, "b": true, "NOT b": false, "i = 7": true, "i = 8": false, "r = r": false, "NOT r = r": false, "r IS NULL": true,
		"NULL OR TRUE": true, "NULL AND TRUE": false, "NULL OR NULL": false, "x < 0 AND t = 'a'": true, "COALESCE ( NULL , NULL )": false, "COALESCE ( NULL , b )": true, "FALSE AND 1 / 0 = 1": false, "TRUE OR 1 / 0 = 1": true,
	} {
		if ok, why := Holds(written.Expr(text), sample.Columns(), row); ok != want || why != api.OK {
			t.Errorf("Holds(%s) = %t %d, want %t 0", text, ok, why, want)
		}
	}
	for _, e := range noneAtAll() {
		for n := range len(row) + 1 {
			if ok, why := Holds(e, sample.Columns()[:n], row[:n]); !ok || why != api.OK {
				t.Errorf("Holds(none at all, %+v) = %t %d", row[:n], ok, why)
			}
		}
	}
}

// TestHoldsRefuses: P13.4, behind the condition the row, and then what it says.
func TestHoldsRefuses(t *testing.T) {
	cols := []api.Column{sample.Filled("k", api.Int), sample.Column("a", api.Text)}
	good := sample.Row(sample.Int(1), sample.Null())
	refused := []wrongCell{
		{api.Cell{}, api.ErrSize}, {api.Cell{Row: good[:1]}, api.ErrSize}, {api.Cell{Row: append(good, sample.Null())}, api.ErrSize},
		{api.Cell{Row: sample.Row(sample.Null(), sample.Null())}, api.ErrNull}, {api.Cell{Row: sample.Row(sample.Int(1), sample.Int(1))}, api.ErrKind},
	}
	for _, r := range sample.RefusedValues() {
		refused = append(refused, wrongCell{api.Cell{Row: sample.Row(r.Value, sample.Null())}, r.Why}, wrongCell{api.Cell{Row: sample.Row(sample.Int(1), r.Value)}, r.Why})
	}
	conditions := append(noneAtAll(), written.Expr("TRUE"), written.Expr("NULL"), written.Expr("1 / 0 = 1"), written.Expr("k = 1"))
	for _, w := range refused {
		for _, e := range conditions {
			if ok, why := Holds(e, cols, w.cell.Row); ok || why != w.want {
				t.Errorf("Holds(%+v, %+v) = %t %d, want none %d", e, w.cell.Row, ok, why, w.want)
			}
		}
		mustRefuseCondition(t, api.ErrKind, written.Expr("k"), cols)
	}
	for text, want := range map[string]api.Errno{
		"1 / 0 = 1": api.ErrZero, "k / ( k - 1 ) = 1": api.ErrZero, "k + 9223372036854775807 > 0": api.ErrRange, "TRUE OR TRUE AND 1 / 0 = 1": api.OK, "TRUE AND 1 / 0 = 1": api.ErrZero,
		"LENGTH ( 'xxxxxxxxxxxxxxxxxxxx' || 'xxxxxxxxxxxxxxxxxxxx' || 'x' ) = 41": api.ErrSize, "- ( - 9223372036854775807 - 1 ) = k": api.ErrRange,
	} {
		if ok, why := Holds(written.Expr(text), cols, good); ok != (want == api.OK) || why != want {
			t.Errorf("Holds(%s) = %t %d, want %d", text, ok, why, want)
		}
	}
}

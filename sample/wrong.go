package sample

import (
	"math"
	"strings"

	"chirograph/api"
)

// Refused: a value that may not be, and why.
type Refused struct {
	Value api.Value
	Why   api.Errno
}

// RefusedValues: each error of P1.1, and which one stands first.
func RefusedValues() []Refused {
	tooLong := Long(api.MaxText + 1)
	var l []Refused
	for _, k := range WrongKinds() {
		l = append(l, Refused{api.Value{Kind: k}, api.ErrKind}, Refused{api.Value{Kind: k, Text: tooLong}, api.ErrKind}, Refused{api.Value{Kind: k, Int: 2, Bits: 1, Text: "\xff"}, api.ErrKind})
	}
	for k := api.Null; k <= api.Text; k++ {
		l = append(l, Refused{api.Value{Kind: k, Text: tooLong}, api.ErrSize}, Refused{api.Value{Kind: k, Int: 2, Bits: 1 << 63, Text: tooLong}, api.ErrSize})
		if k != api.Bool && k != api.Int {
			l = append(l, Refused{api.Value{Kind: k, Int: 1}, api.ErrForm}, Refused{api.Value{Kind: k, Int: math.MinInt}, api.ErrForm})
		}
		if k != api.Real {
			l = append(l, Refused{api.Value{Kind: k, Bits: 1}, api.ErrForm}, Refused{api.Value{Kind: k, Bits: 1 << 63}, api.ErrForm})
		}
		if k != api.Text {
			l = append(l, Refused{api.Value{Kind: k, Text: "a"}, api.ErrForm}, Refused{api.Value{Kind: k, Text: Long(api.MaxText)}, api.ErrForm})
		}
	}
	for _, i := range []int{2, -1, math.MinInt, math.MaxInt} {
		l = append(l, Refused{Bool(i), api.ErrForm})
	}
	for _, b := range []uint64{1 << 63, 0x7ff8000000000000, 0x7ff0000000000001, 0xfff8000000000000, 0xfff0000000000001, math.MaxUint64} {
		l = append(l, Refused{Bits(b), api.ErrForm})
	}
	for _, s := range []string{"\xc3", "a\xff", "\x80", "\xc0\x80", "\xed\xa0\x80", "\xf4\x90\x80\x80", Long(api.MaxText-1) + "\xc3"} {
		l = append(l, Refused{Text(s), api.ErrForm})
	}
	return append(l, Refused{Text(Long(api.MaxText) + "\xc3"), api.ErrSize}, Refused{Text(strings.Repeat("é", api.MaxText/2) + "x"), api.ErrSize})
}

// WrongNames are none of at most MaxName bytes.
func WrongNames() []string {
	return []string{"", "A", "aB", "NULL", "1", "1a", "_a", "a-b", "a b", " a", "a ", "'a'", "\u00e9", "a\xff", "a\x00", "abcdefghi", Long(api.MaxName + 1), Long(1000)}
}

// WrongKinds there are not, some of them one by their lowest byte.
func WrongKinds() []int {
	return []int{-1, -2, 5, 6, 256, 257, 260, 1<<32 + 1, 1<<32 + 2, math.MinInt, math.MinInt + 1, math.MaxInt}
}

// WrongColumns that may not be, and why.
func WrongColumns() map[api.Errno][][]api.Column {
	a := Filled("a", api.Int)
	return map[api.Errno][][]api.Column{
		api.ErrSize:  {make([]api.Column, api.MaxCols+1), append(Columns(), a)},
		api.ErrForm:  {{{}}, {a, Filled("A", api.Int)}},
		api.ErrKind:  {{Filled("a", api.Null)}, {a, Column("b", 5)}},
		api.ErrTwice: {{a, a}, append(Columns()[:4], Filled("b", api.Int))},
	}
}

// WrongRow that does not fit columns, and why.
type WrongRow struct {
	Row []api.Value
	Why api.Errno
}

// WrongRows: each way not to fit TwoColumns.
func WrongRows() []WrongRow {
	l := []WrongRow{
		{nil, api.ErrSize}, {Row(Int(50)), api.ErrSize}, {Row(Int(50), Text(""), Null()), api.ErrSize},
		{Row(Null(), Text("")), api.ErrNull}, {Row(Int(50), Null()), api.ErrNull},
		{Row(Text(""), Int(50)), api.ErrKind}, {Row(Bool(1), Text("")), api.ErrKind}, {Row(Int(50), Real(0)), api.ErrKind},
	}
	for _, r := range RefusedValues() {
		l = append(l, WrongRow{Row(r.Value, Text("")), r.Why}, WrongRow{Row(Int(50), r.Value), r.Why})
	}
	return l
}

// WrongExprs: expressions that may not be, and why.
func WrongExprs() map[api.Errno][]api.Expr {
	one, missing := Lit(Int(1)), Col("y")
	deep := Op(api.Not, one)
	for range api.MaxDepth - 1 {
		deep = Op(api.Not, deep)
	}
	itself := make([]api.Expr, 1)
	itself[0] = Op(api.Neg, itself...)
	return map[api.Errno][]api.Expr{
		api.ErrSize: {deep, itself[0], Op(api.Add, missing, deep), Op(api.Add, make([]api.Expr, api.MaxNodes)...), Op(0, deep)},
		api.ErrKind: {{}, Op(21, one), Op(-1), Op(api.Add, Op(api.Join, one, one), api.Expr{}), Op(api.Eq, missing, Op(257))},
		api.ErrForm: {
			Col("A"), Col(""), Lit(Int(-1)), Lit(api.Value{Kind: 9}), Op(api.Neg), Op(api.Neg, one, one), Op(api.Add, one), Op(api.Lit, one),
			Op(api.Add, missing, Op(api.Coalesce, one)), Op(api.Join, one, Col("1")), {Op: api.Col, Name: "a", Value: Int(1)},
		},
	}
}

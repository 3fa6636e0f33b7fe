package kinds

import (
	"slices"
	"strings"
	"testing"

	"chirograph/api"
	"chirograph/sample"
)

// good: n columns that may be, of all Kinds.
func good(n int) []api.Column {
	return []api.Column{
		sample.Filled("a", api.Int), sample.Column("b1_", api.Text), sample.Column("null", api.Bool),
		sample.Filled("abcdefgh", api.Real), sample.Column("z", api.Int),
	}[:n]
}

// mustSayColumns: what is wrong with columns, whoever is asked.
func mustSayColumns(t *testing.T, want api.Errno, cols []api.Column) {
	t.Helper()
	if f := Columns(cols); f != want {
		t.Errorf("Columns(%+v) = %d, want %d", cols, f, want)
	}
	if want == api.OK {
		return
	}
	a := sample.Col("a")
	for _, e := range []api.Expr{sample.Lit(sample.Int(1)), a, sample.Op(api.Not, sample.Lit(sample.Int(1))), sample.Op(api.Join, a, a)} {
		mustRefuse(t, want, e, cols)
	}
	for _, n := range []int{0, len(cols), len(cols) + 1} {
		mustSayRow(t, want, make([]api.Value, n), cols)
		mustSayRow(t, want, slices.Repeat([]api.Value{{Kind: -1}}, n), cols)
	}
}

// TestColumnsTakes: P9.1, up to MaxCols of each Kind, null or not, and names up to their edges.
func TestColumnsTakes(t *testing.T) {
	mustSayColumns(t, api.OK, nil)
	mustSayColumns(t, api.OK, []api.Column{})
	for n := range api.MaxCols + 1 {
		mustSayColumns(t, api.OK, good(n))
	}
	for _, kind := range sample.KindsOfColumns() {
		for _, name := range []string{"a", "z", "a0", "a9", "a_", "a__1", "not", "abcdefgh", sample.Long(api.MaxName)} {
			mustSayColumns(t, api.OK, []api.Column{sample.Column(name, kind)})
			mustSayColumns(t, api.OK, []api.Column{sample.Filled(name, kind)})
		}
	}
	mustSayColumns(t, api.OK, []api.Column{sample.Filled("a", api.Int), sample.Filled("aa", api.Int), sample.Filled("a_", api.Int), sample.Filled("a1", api.Int)})
}

// wrongColumn: a column with a fault of its own, and which one.
type wrongColumn struct {
	c    api.Column
	want api.Errno
}

// wrongColumns: each fault that a column may have, and which one stands first.
func wrongColumns() []wrongColumn {
	var l []wrongColumn
	for _, kind := range append(sample.WrongKinds(), api.Null) {
		l = append(l, wrongColumn{sample.Column("c", kind), api.ErrKind}, wrongColumn{sample.Filled("c", kind), api.ErrKind})
		l = append(l, wrongColumn{sample.Column("", kind), api.ErrForm}, wrongColumn{sample.Filled("C", kind), api.ErrForm})
	}
	for _, name := range sample.WrongNames() {
		for _, kind := range sample.KindsOfColumns() {
			l = append(l, wrongColumn{sample.Column(name, kind), api.ErrForm}, wrongColumn{sample.Filled(name, kind), api.ErrForm})
		}
	}
	return l
}

// TestColumnsRefuses: P9.1, each fault in each place.
func TestColumnsRefuses(t *testing.T) {
	for _, w := range wrongColumns() {
		for n := 1; n <= api.MaxCols; n++ {
			for i := range n {
				cols := good(n)
				cols[i] = w.c
				mustSayColumns(t, w.want, cols)
			}
		}
	}
}

// TestColumnsTwice: P9.1, a name that one ahead has, whatever else they have.
func TestColumnsTwice(t *testing.T) {
	for n := 2; n <= api.MaxCols; n++ {
		for j := range n {
			for i := range j {
				for _, kind := range sample.KindsOfColumns() {
					cols := good(n)
					cols[j] = sample.Column(cols[i].Name, kind)
					mustSayColumns(t, api.ErrTwice, cols)
					cols[j] = sample.Filled(cols[i].Name, kind)
					mustSayColumns(t, api.ErrTwice, cols)
				}
			}
		}
	}
}

// TestColumnsSize: P9.1, too many are refused ahead of all else.
func TestColumnsSize(t *testing.T) {
	fine := append(good(api.MaxCols), sample.Column("y", api.Int))
	mustSayColumns(t, api.ErrSize, fine)
	for i := range fine {
		for _, c := range []api.Column{{}, sample.Column("y", -1), sample.Column("", api.Int), fine[(i+1)%len(fine)]} {
			cols := slices.Clone(fine)
			cols[i] = c
			mustSayColumns(t, api.ErrSize, cols)
		}
	}
	for _, n := range []int{api.MaxCols + 2, 256, 256 + api.MaxCols, 1000000} {
		mustSayColumns(t, api.ErrSize, make([]api.Column, n))
	}
}

// TestColumnsFirstFault: P9.1, column by column, and of one column its name, then its Kind, then that one ahead has its name.
func TestColumnsFirstFault(t *testing.T) {
	faults := []wrongColumn{
		{sample.Column("A", api.Int), api.ErrForm}, {sample.Column("c", api.Null), api.ErrKind}, {sample.Column("a", api.Text), api.ErrTwice},
		{sample.Column("A", 9), api.ErrForm}, {sample.Column("a", 9), api.ErrKind}, {sample.Filled("", api.Null), api.ErrForm},
	}
	for i := 1; i < api.MaxCols; i++ {
		for j := 1; j < i; j++ {
			for _, first := range faults {
				for _, second := range faults {
					cols := good(api.MaxCols)
					cols[j], cols[i] = first.c, second.c
					mustSayColumns(t, first.want, cols)
				}
			}
		}
	}
	mustSayColumns(t, api.ErrForm, []api.Column{sample.Filled("A", api.Int), sample.Filled("A", api.Int)})
	mustSayColumns(t, api.ErrKind, []api.Column{sample.Filled("a", api.Null), sample.Filled("a", api.Null)})
}

// TestColumnNames: P9.1, names of each byte.
func TestColumnNames(t *testing.T) {
	for i := range 256 {
		for _, ahead := range []string{"", "a"} {
			name := ahead + string([]byte{byte(i)})
			want := api.ErrForm
			if strings.IndexByte("abcdefghijklmnopqrstuvwxyz", byte(i)) >= 0 || ahead != "" && strings.IndexByte("0123456789_", byte(i)) >= 0 {
				want = api.OK
			}
			mustSayColumns(t, want, []api.Column{sample.Filled(name, api.Int)})
		}
	}
}

// mustSayRow: what is wrong with a row of columns.
func mustSayRow(t *testing.T, want api.Errno, row []api.Value, cols []api.Column) {
	t.Helper()
	if f := Row(row, cols); f != want {
		t.Errorf("Row(%+v, %+v) = %d, want %d", row, cols, f, want)
	}
}

// fault that a value of a Kind has in a column.
func fault(kind int, c api.Column) api.Errno {
	switch {
	case kind == api.Null && !c.Null:
		return api.ErrNull
	case kind != api.Null && kind != c.Kind:
		return api.ErrKind
	}
	return api.OK
}

// TestRowOfOne: P9.3, each value in each column.
func TestRowOfOne(t *testing.T) {
	for _, columnKind := range sample.KindsOfColumns() {
		for _, c := range []api.Column{sample.Column("a", columnKind), sample.Filled("a", columnKind)} {
			for kind := api.Null; kind <= api.Text; kind++ {
				for _, v := range sample.ValuesOf(kind) {
					mustSayRow(t, fault(kind, c), []api.Value{v}, []api.Column{c})
				}
			}
			for _, r := range sample.RefusedValues() {
				mustSayRow(t, r.Why, []api.Value{r.Value}, []api.Column{c})
			}
		}
	}
}

// fitting: a row that fits columns, without nulls.
func fitting(cols []api.Column) []api.Value {
	var row []api.Value
	for _, c := range cols {
		l := sample.ValuesOf(c.Kind)
		row = append(row, l[len(l)-1])
	}
	return row
}

// TestRowEachPlace: P9.3, each value in each place of each number of columns.
func TestRowEachPlace(t *testing.T) {
	mustSayRow(t, api.OK, nil, nil)
	mustSayRow(t, api.OK, []api.Value{}, []api.Column{})
	for n := range api.MaxCols + 1 {
		cols := good(n)
		mustSayRow(t, api.OK, fitting(cols), cols)
		for i, c := range cols {
			row := fitting(cols)
			for kind := api.Null; kind <= api.Text; kind++ {
				row[i] = sample.ValuesOf(kind)[0]
				mustSayRow(t, fault(kind, c), row, cols)
			}
			for _, r := range sample.RefusedValues() {
				row[i] = r.Value
				mustSayRow(t, r.Why, row, cols)
			}
		}
	}
}

// TestRowSize: P9.3, a value more or less is refused ahead of what the values are.
func TestRowSize(t *testing.T) {
	for n := range api.MaxCols + 1 {
		for _, m := range []int{0, 1, n - 1, n + 1, api.MaxCols, api.MaxCols + 1, 256 + n, 1000000} {
			if m == n || m < 0 {
				continue
			}
			mustSayRow(t, api.ErrSize, make([]api.Value, m), good(n))
			mustSayRow(t, api.ErrSize, slices.Repeat([]api.Value{{Kind: -1}}, m), good(n))
		}
		row := fitting(good(n))
		mustSayRow(t, api.ErrSize, append(row, sample.Null()), good(n))
		if n > 0 {
			mustSayRow(t, api.ErrSize, row[1:], good(n))
		}
	}
}

// TestRowFirstFault: P9.3, value by value: whichever stands first is told.
func TestRowFirstFault(t *testing.T) {
	cols := []api.Column{sample.Filled("a", api.Int), sample.Filled("b", api.Int), sample.Filled("c", api.Int), sample.Filled("d", api.Int)}
	faults := []sample.Refused{
		{Value: sample.Null(), Why: api.ErrNull}, {Value: sample.Text("a"), Why: api.ErrKind}, {Value: api.Value{Kind: 9}, Why: api.ErrKind},
		{Value: sample.Bool(2), Why: api.ErrForm}, {Value: api.Value{Int: 1}, Why: api.ErrForm}, {Value: sample.Text(sample.Long(api.MaxText + 1)), Why: api.ErrSize},
	}
	for i := range cols {
		for j := range i {
			for _, first := range faults {
				for _, second := range faults {
					row := fitting(cols)
					row[j], row[i] = first.Value, second.Value
					mustSayRow(t, first.Why, row, cols)
				}
			}
		}
	}
}

// TestListsStayAsTheyAre: what is handed in is not changed, its spare room neither.
func TestListsStayAsTheyAre(t *testing.T) {
	cols := append(good(4), sample.Column("spare", api.Real))
	row := append(fitting(cols), sample.Text("spare"))
	parts := []api.Expr{sample.Col("a"), sample.Lit(sample.Int(1)), sample.Col("spare")}
	colsBefore, rowBefore := slices.Clone(cols), slices.Clone(row)
	for _, n := range []int{4, 3, 0} {
		Columns(cols[:n])
		Row(row[:n], cols[:n])
		Of(sample.Op(api.Add, parts[:2]...), cols[:n])
	}
	same := func(a, b api.Expr) bool {
		return a.Op == b.Op && a.Name == b.Name && a.Value == b.Value && len(a.Args) == 0
	}
	if !slices.Equal(cols, colsBefore) || !slices.Equal(row, rowBefore) {
		t.Errorf("lists were changed: %+v %+v", cols, row)
	}
	if !slices.EqualFunc(parts, []api.Expr{sample.Col("a"), sample.Lit(sample.Int(1)), sample.Col("spare")}, same) {
		t.Errorf("parts were changed: %+v", parts)
	}
}

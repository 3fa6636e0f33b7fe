package table

import (
	"math/rand"
	"slices"
	"testing"

	"chirograph/api"
	"chirograph/eval"
	"chirograph/expr"
	"chirograph/kinds"
	"chirograph/sample"
)

// second way of saying what P13.3 to P13.7 do, of tables of the columns of package sample: each row by the number of its drawer and cell; the first fault ends all by a panic.
type second map[place][]api.Value

type place struct{ drawer, cell int }

// asked of the second way, whose rows stay as they were if it has a fault.
func (rows second) asked(do func(second) int) (after second, n int, why api.Errno) {
	defer func() {
		if fault := recover(); fault != nil {
			after, n, why = rows, 0, fault.(api.Errno)
		}
	}()
	changed := second{}
	for p, row := range rows {
		changed[p] = slices.Clone(row)
	}
	n = do(changed)
	return changed, n, api.OK
}

func must(why api.Errno) {
	if why != api.OK {
		panic(why)
	}
}

func mustHold(ok bool, why api.Errno) {
	if !ok {
		panic(why)
	}
}

// said of a row by an expression.
func said(e api.Expr, row []api.Value) api.Value {
	v, why := eval.Eval(e, sample.KeyedColumns(), row)
	must(why)
	return v
}

// kindOf an expression, which must have one.
func kindOf(e api.Expr) int {
	kind, _, why := kinds.Of(e, sample.KeyedColumns())
	must(why)
	return kind
}

// holding: the places in a drawer of rows of which the condition holds, asked for one by one.
func (rows second) holding(drawer int, where api.Expr, each func(p place)) int {
	n := 0
	for i := range api.Slots {
		row, there := rows[place{drawer, i}]
		if there && (where.Op == 0 || said(where, row) == sample.Bool(1)) {
			n++
			each(place{drawer, i})
		}
	}
	return n
}

func checkWhereOf(drawer int, where api.Expr) {
	mustHold(drawer == 0 || drawer == 1, api.ErrRange)
	if where.Op != 0 {
		kind := kindOf(where)
		mustHold(kind == api.Bool || kind == api.Null, api.ErrKind)
	}
}

func (rows second) insert(drawer int, row []api.Value) int {
	mustHold(drawer == 0 || drawer == 1, api.ErrRange)
	must(kinds.Row(row, sample.KeyedColumns()))
	free := []int{}
	for i := range api.Slots {
		other, there := rows[place{drawer, i}]
		mustHold(!there || other[0] != row[0], api.ErrTwice)
		if !there {
			free = append(free, i)
		}
	}
	mustHold(len(free) > 0, api.ErrFull)
	rows[place{drawer, free[0]}] = slices.Clone(row)
	return 1
}

func (rows second) delete(drawer int, where api.Expr) int {
	checkWhereOf(drawer, where)
	return rows.holding(drawer, where, func(p place) { delete(rows, p) })
}

func (rows second) update(drawer int, where api.Expr, l []api.Set) int {
	checkWhereOf(drawer, where)
	mustHold(len(l) >= 1 && len(l) <= api.MaxSets, api.ErrSize)
	places := map[string]int{}
	for i, c := range sample.KeyedColumns() {
		places[c.Name] = i
	}
	seen := map[string]int{}
	for _, s := range l {
		i, there := places[s.Col]
		mustHold(there, api.ErrNone)
		seen[s.Col]++
		mustHold(seen[s.Col] == 1, api.ErrTwice)
		kind := kindOf(s.Expr)
		mustHold(kind == api.Null || kind == sample.KeyedColumns()[i].Kind, api.ErrKind)
	}
	n := rows.holding(drawer, where, func(p place) {
		was := slices.Clone(rows[p])
		for _, s := range l {
			v := said(s.Expr, was)
			mustHold(v.Kind != api.Null || s.Col != "x", api.ErrNull)
			rows[p][places[s.Col]] = v
		}
	})
	keys := map[api.Value]int{}
	for p, row := range rows {
		if p.drawer == drawer {
			keys[row[0]]++
			mustHold(keys[row[0]] == 1, api.ErrTwice)
		}
	}
	return n
}

// table that has these rows.
func (rows second) table() api.Table {
	t := sample.Table(sample.KeyedColumns())
	for p, row := range rows {
		t.Drawers[p.drawer][p.cell] = api.Cell{Full: true, Row: row}
	}
	return t
}

// told of the drawers that are open, as P13.7 says: the least key that is left, time and again.
func (rows second) told(open [api.Drawers]bool) [][]api.Value {
	var l [][]api.Value
	for drawer, isOpen := range open {
		left := map[int][]api.Value{}
		for p, row := range rows {
			if isOpen && p.drawer == drawer {
				left[row[0].Int] = row
			}
		}
		for len(left) > 0 {
			var least []int
			for k := range left {
				if len(least) == 0 || k < least[0] {
					least = []int{k}
				}
			}
			l = append(l, left[least[0]])
			delete(left, least[0])
		}
	}
	return l
}

// whereBy chance: mostly a bool, at times none at all.
func whereBy(chance *rand.Rand) api.Expr {
	switch chance.Intn(8) {
	case 0:
		return api.Expr{}
	case 1, 2, 3:
		ops := []int{api.Eq, api.Ne, api.Lt, api.Ge}
		return sample.Op(ops[chance.Intn(len(ops))], sample.Col("x"), sample.Lit(sample.Int(chance.Intn(3))))
	}
	return sample.Grown(chance.Intn, 1+chance.Intn(4), api.Bool)
}

// setsBy chance: mostly of the columns' Kinds, each column once.
func setsBy(chance *rand.Rand) []api.Set {
	var l []api.Set
	cols := append(sample.KeyedColumns(), sample.Filled("y", api.Int))
	chance.Shuffle(len(cols), func(i, j int) { cols[i], cols[j] = cols[j], cols[i] })
	if chance.Intn(8) == 0 {
		cols[1] = cols[0]
	}
	for _, c := range cols[:min(chance.Intn(9)/2+chance.Intn(2), len(cols))] {
		if c.Name == "y" && chance.Intn(6) > 0 {
			continue
		}
		e := sample.Grown(chance.Intn, 1+chance.Intn(4), c.Kind)
		switch chance.Intn(12) {
		case 0:
			e = sample.Lit(sample.Null())
		case 1:
			e = sample.Grown(chance.Intn, 2, api.Text)
		case 2, 3, 4:
			if c.Kind == api.Int {
				e = sample.Op(api.Add, sample.Col(c.Name), sample.Lit(sample.Int(1)))
			}
		}
		l = append(l, api.Set{Col: c.Name, Expr: e})
	}
	return l
}

// rowBy chance: mostly with a small key, at times one that does not fit.
func rowBy(chance *rand.Rand) []api.Value {
	row := sample.KeyedRows(chance.Intn, 1)[0]
	if chance.Intn(4) > 0 {
		row[0] = sample.Int(chance.Intn(6) - 1)
	}
	switch chance.Intn(30) {
	case 0:
		row[chance.Intn(len(row))] = sample.Null()
	case 1:
		row[chance.Intn(len(row))] = sample.Int(1)
	case 2:
		row = row[1:]
	}
	return row
}

// step by chance on both ways: what each of them has then.
func step(chance *rand.Rand, x api.Table, rows second) (y api.Table, n int, why api.Errno, after second, wantN int, want api.Errno) {
	drawer := chance.Intn(2)
	if chance.Intn(40) == 0 {
		drawer = 2*chance.Intn(3) - 1
	}
	switch where := whereBy(chance); chance.Intn(6) {
	case 0, 1, 2:
		row := rowBy(chance)
		y, why = Insert(x, drawer, row)
		after, wantN, want = rows.asked(func(s second) int { return s.insert(drawer, row) })
		n = wantN // Insert does not tell it
	case 3:
		y, n, why = Delete(x, drawer, where)
		after, wantN, want = rows.asked(func(s second) int { return s.delete(drawer, where) })
	default:
		l := setsBy(chance)
		y, n, why = Update(x, drawer, where, l)
		after, wantN, want = rows.asked(func(s second) int { return s.update(drawer, where, l) })
	}
	return y, n, why, after, wantN, want
}

// TestManySteps: P13.3 to P13.7, and what comes of it: what fails changes nothing, and what is done leaves a table that may be.
func TestManySteps(t *testing.T) {
	chance := rand.New(rand.NewSource(13))
	counts := map[api.Errno]int{}
	for range 400 {
		x, rows := sample.Table(sample.KeyedColumns()), second{}
		for range 100 {
			y, n, why, after, wantN, want := step(chance, x, rows)
			counts[want]++
			if n != wantN || why != want || why != api.OK && !isNone(y) || why == api.OK && !same(y, after.table()) {
				t.Fatalf("a step on %+v = %+v %d %d, want %+v %d %d", x, y, n, why, after.table(), wantN, want)
			}
			if why == api.OK {
				x, rows = y, after
			}
			open := [api.Drawers]bool{chance.Intn(2) == 0, chance.Intn(2) == 0}
			l, f := Rows(x, open)
			if Check(x) != api.OK || f != api.OK || !slices.EqualFunc(l, rows.told(open), slices.Equal) {
				t.Fatalf("Rows(%+v, %v) = %+v %d", x, open, l, f)
			}
		}
	}
	for _, why := range []api.Errno{api.OK, api.ErrSize, api.ErrKind, api.ErrNone, api.ErrRange, api.ErrZero, api.ErrTwice, api.ErrFull, api.ErrNull} {
		if counts[why] < 50 {
			t.Errorf("of steps there were %v", counts)
		}
	}
}

// TestManyConditions: P13.4, as kinds and eval say it.
func TestManyConditions(t *testing.T) {
	chance := rand.New(rand.NewSource(14))
	counts := map[string]int{}
	for range 20000 {
		e := sample.Grown(chance.Intn, 1+chance.Intn(api.MaxDepth), chance.Intn(api.Text+1))
		if expr.Check(e) != api.OK {
			continue
		}
		row := sample.Rows(chance.Intn, 1)[0]
		kind, _, want := kinds.Of(e, sample.Columns())
		if want == api.OK && kind > api.Bool {
			want = api.ErrKind
		}
		if why := Condition(e, sample.Columns()); why != want {
			t.Errorf("Condition(%+v) = %d, want %d", e, why, want)
		}
		var v api.Value
		if want == api.OK {
			v, want = eval.Eval(e, sample.Columns(), row)
		}
		if ok, why := Holds(e, sample.Columns(), row); ok != (v == sample.Bool(1)) || why != want {
			t.Errorf("Holds(%+v, %+v) = %t %d, want %+v %d", e, row, ok, why, v, want)
		}
		if want != api.OK {
			counts["refused"]++
		} else if v == sample.Null() {
			counts["null"]++
		} else {
			counts[string(rune('0'+v.Int))]++
		}
	}
	for _, name := range []string{"refused", "null", "0", "1"} {
		if counts[name] < 300 {
			t.Errorf("of conditions there were %v", counts)
		}
	}
}

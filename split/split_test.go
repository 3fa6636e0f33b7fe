package split

import (
	"math"
	"math/rand"
	"runtime"
	"slices"
	"sync"
	"testing"
	"time"

	"chirograph/api"
	"chirograph/query"
	"chirograph/sample"
	"chirograph/written"
)

// dealt: where parts begin if things are dealt out one by one, to one worker after the other.
func dealt(n, workers int) []int {
	parts := make([]int, workers)
	for i := range n {
		parts[i%workers]++
	}
	l := []int{0}
	for i, part := range parts {
		l = append(l, l[i]+part)
	}
	return l
}

// TestShare: P15.1, each number of things and of workers.
func TestShare(t *testing.T) {
	for n := range api.MaxRows + 1 {
		for workers := 1; workers <= api.MaxWork; workers++ {
			if got, why := Share(n, workers); !slices.Equal(got, dealt(n, workers)) || why != api.OK {
				t.Errorf("Share(%d, %d) = %d (%d), want %d", n, workers, got, why, dealt(n, workers))
			}
		}
	}
}

// TestSharesTold: P15.1, shares as they are told.
func TestSharesTold(t *testing.T) {
	for _, c := range []struct {
		n, workers int
		want       []int
	}{
		{10, 4, []int{0, 3, 6, 8, 10}}, {0, 1, []int{0, 0}}, {0, 8, []int{0, 0, 0, 0, 0, 0, 0, 0, 0}}, {1, 1, []int{0, 1}}, {1, 3, []int{0, 1, 1, 1}}, {2, 3, []int{0, 1, 2, 2}}, {3, 3, []int{0, 1, 2, 3}}, {4, 3, []int{0, 2, 3, 4}}, {5, 3, []int{0, 2, 4, 5}},
		{7, 2, []int{0, 4, 7}}, {7, 8, []int{0, 1, 2, 3, 4, 5, 6, 7, 7}}, {64, 1, []int{0, 64}}, {64, 7, []int{0, 10, 19, 28, 37, 46, 55, 64}}, {64, 8, []int{0, 8, 16, 24, 32, 40, 48, 56, 64}}, {63, 8, []int{0, 8, 16, 24, 32, 40, 48, 56, 63}},
	} {
		if got, why := Share(c.n, c.workers); !slices.Equal(got, c.want) || why != api.OK {
			t.Errorf("Share(%d, %d) = %d (%d), want %d", c.n, c.workers, got, why, c.want)
		}
	}
}

// wrongWorkers: numbers of workers that there are not, some of them one by their lowest bytes.
func wrongWorkers() []int {
	return []int{0, -1, -2, -8, 9, 10, 16, 64, 256, 257, 264, 1<<32 + 1, 1<<32 + 8, math.MinInt, math.MinInt + 1, math.MaxInt}
}

// TestShareRefuses: P15.1, first how many things there are, then how many workers.
func TestShareRefuses(t *testing.T) {
	refuses := func(want api.Errno, n, workers int) {
		t.Helper()
		if got, why := Share(n, workers); len(got) > 0 || why != want {
			t.Errorf("Share(%d, %d) = %d (%d), want none (%d)", n, workers, got, why, want)
		}
	}
	for _, n := range []int{-1, -2, -64, 65, 66, 256, 1 << 32, 1<<32 + 1, math.MinInt, math.MinInt + 1, math.MaxInt} {
		for workers := 1; workers <= api.MaxWork; workers++ {
			refuses(api.ErrSize, n, workers)
		}
		for _, workers := range wrongWorkers() {
			refuses(api.ErrSize, n, workers)
		}
	}
	for n := range api.MaxRows + 1 {
		for _, workers := range wrongWorkers() {
			refuses(api.ErrRange, n, workers)
		}
	}
}

// TestSharesAreNew: no answer shares memory with another one.
func TestSharesAreNew(t *testing.T) {
	for n := range api.MaxRows + 1 {
		for workers := 1; workers <= api.MaxWork; workers++ {
			got, _ := Share(n, workers)
			other, _ := Share(n, workers)
			sample.SpoilList(got, 77)
			if again, _ := Share(n, workers); !slices.Equal(other, dealt(n, workers)) || !slices.Equal(again, other) {
				t.Errorf("Share(%d, %d) is shared with another answer", n, workers)
			}
		}
	}
}

// mustTell: P15.2, so many workers tell what is wanted, or refuse it, however many they are.
func mustTell(t *testing.T, a sample.Asked, want string, wanted api.Errno) {
	t.Helper()
	for workers := 1; workers <= api.MaxWork; workers++ {
		if told, why := Run(a.Cols, a.Rows, a.Query, workers); written.Rows(told) != want || why != wanted {
			t.Errorf("%+v, asked by %d workers, tells %s (%d), want %s (%d)", a, workers, written.Rows(told), why, want, wanted)
		}
	}
}

// TestRun: P15.2, each way to tell, of rows that several workers have.
func TestRun(t *testing.T) {
	for text, want := range map[string]string{
		"x": "4; 1; 5; 2; 3", "x , i": "4 7; 1 5; 5 -; 2 -; 3 5", "x WHERE b": "4; 1; 5", "x WHERE x <> 5": "4; 1; 2; 3", "x WHERE FALSE": "", "x WHERE NOT b": "3",
		"COUNT ( * )": "5", "COUNT ( * ) , SUM ( i ) , MIN ( i ) , MAX ( i )": "5 17 5 7", "MIN ( t ) , MAX ( t ) WHERE x > 1": "'' 'b'", "COUNT ( * ) , SUM ( x ) WHERE FALSE": "0 -",
		"t , COUNT ( * ) GROUP BY t": "- 1; '' 1; 'a' 1; 'b' 2", "i , SUM ( x ) , MIN ( t ) , MAX ( r ) GROUP BY i": "- 7 '' 1.5; 5 4 'b' 1.5; 7 4 'b' 0", "b , COUNT ( * ) WHERE x > 3 GROUP BY b": "true 2", "COUNT ( * ) WHERE FALSE GROUP BY b": "", "i GROUP BY i": "7; 5; -; -; 5",
		"x ORDER BY 1": "1; 2; 3; 4; 5", "i , x ORDER BY 1": "- 5; - 2; 5 1; 5 3; 7 4", "i , x ORDER BY 1 DESC": "7 4; 5 1; 5 3; - 5; - 2", "1 , x ORDER BY 1": "1 4; 1 1; 1 5; 1 2; 1 3", "b , COUNT ( * ) GROUP BY b ORDER BY 2 DESC": "true 3; - 1; false 1",
		"x LIMIT 0": "", "x LIMIT 2": "4; 1", "x LIMIT 4": "4; 1; 5; 2", "x ORDER BY 1 DESC LIMIT 2": "5; 4", "x WHERE b LIMIT 2": "4; 1", "COUNT ( * ) LIMIT 1": "5",
	} {
		mustTell(t, sample.Asked{Cols: sample.KeyedColumns(), Rows: sample.FiveRows(), Query: written.Query(text)}, want, api.OK)
	}
	for text, want := range map[string]string{"x": "", "COUNT ( * ) , SUM ( x )": "0 -", "x , COUNT ( * ) GROUP BY x": "", "1 / 0": ""} {
		mustTell(t, sample.Asked{Cols: sample.KeyedColumns(), Query: written.Query(text)}, want, api.OK)
	}
	mustTell(t, sample.Asked{Rows: [][]api.Value{nil, {}, nil}, Query: written.Query("1 , 'a'")}, "1 'a'; 1 'a'; 1 'a'", api.OK)
}

// TestSumOfAll: P15.2, what a worker has of a sum may be no number of 64 bits, as long as the whole is one.
func TestSumOfAll(t *testing.T) {
	const lowest, highest = math.MinInt, math.MaxInt
	for _, c := range []struct {
		l    []int
		want string
		why  api.Errno
	}{
		{[]int{highest, highest, lowest, lowest}, "-2", 0}, {[]int{lowest, lowest, lowest, highest, highest, highest, 4}, "1", 0}, {[]int{highest, 1}, "", api.ErrRange}, {[]int{highest, 0, 0, 0, 0, 0, 0, 1}, "", api.ErrRange},
		{slices.Concat(slices.Repeat([]int{highest}, 32), slices.Repeat([]int{-highest}, 32)), "0", 0}, {slices.Repeat([]int{highest, lowest}, 32), "-32", 0}, {slices.Repeat([]int{lowest}, 64), "", api.ErrRange},
	} {
		mustTell(t, sample.Asked{Cols: sample.KeyColumn(), Rows: sample.Numbers(c.l...), Query: written.Query("SUM ( k )")}, c.want, c.why)
	}
}

// TestFirstFault: P15.2, of the faults in two rows that of the first one is told, whoever meets it; sums come behind all rows.
func TestFirstFault(t *testing.T) {
	for _, n := range []int{2, 5, 9, 16} {
		for zero := range n {
			for far := range n {
				l := slices.Repeat([]int{math.MaxInt}, n)
				l[zero] = 0
				if far != zero {
					l[far] = math.MinInt
				}
				want := api.ErrZero
				if far < zero {
					want = api.ErrRange
				}
				for _, text := range []string{"1 / k , - k", "- k WHERE 1 / k = 0", "SUM ( k / k ) , MAX ( - k )", "MIN ( - k ) , MIN ( 1 / k ) GROUP BY k", "k WHERE 1 / k + ( - k ) < 5 LIMIT 0", "SUM ( k ) , MAX ( 1 / k - ( - k ) )"} {
					mustTell(t, sample.Asked{Cols: sample.KeyColumn(), Rows: sample.Numbers(l...), Query: written.Query(text)}, "", want)
				}
			}
		}
	}
}

// TestRowsFirst: P15.2, as in P14.4, all rows must fit ahead of what is met in any of them.
func TestRowsFirst(t *testing.T) {
	fits := sample.Row(sample.Int(0), sample.Text("a"))
	for _, w := range sample.WrongRows() {
		for at := range 9 {
			rows := slices.Insert(slices.Repeat([][]api.Value{fits}, 8), at, w.Row)
			for _, text := range []string{"k", "1 / k", "COUNT ( * )", "SUM ( 1 / k ) GROUP BY a"} {
				mustTell(t, sample.Asked{Cols: sample.TwoColumns(), Rows: rows, Query: written.Query(text)}, "", w.Why)
			}
		}
	}
}

// TestRunRefuses: P15.2, how many workers there are stands ahead of all that query's Run refuses, and that in its order.
func TestRunRefuses(t *testing.T) {
	one, fits := sample.KeyColumn(), sample.Numbers(0)
	tooMany := slices.Repeat(sample.Numbers(0), api.MaxRows+1)
	l := map[api.Errno][]sample.Asked{
		api.OK: {{Cols: one, Rows: fits, Query: written.Query("k")}, {Cols: one, Rows: slices.Repeat(fits, api.MaxRows), Query: written.Query("k LIMIT 0")}},
		api.ErrSize: {
			{Cols: one, Rows: fits}, {Cols: one, Rows: tooMany, Query: written.Query("k")}, {Cols: one, Rows: tooMany, Query: written.Query("1 / k")}, {Cols: one, Rows: make([][]api.Value, 100000), Query: written.Query("COUNT ( * )")},
			{Cols: one, Rows: [][]api.Value{nil}, Query: written.Query("k")},
		},
		api.ErrNone:  {{Cols: one, Rows: tooMany, Query: written.Query("y")}, {Cols: one, Query: written.Query("COUNT ( * ) GROUP BY y")}},
		api.ErrKind:  {{Cols: one, Rows: tooMany, Query: written.Query("k WHERE k")}, {Cols: one, Rows: fits, Query: written.Query("SUM ( 'a' )")}},
		api.ErrForm:  {{Cols: one, Rows: tooMany, Query: written.Query("k , COUNT ( * )")}},
		api.ErrRange: {{Cols: one, Rows: tooMany, Query: written.Query("k ORDER BY 2")}, {Cols: one, Rows: sample.Numbers(math.MinInt), Query: written.Query("- k")}},
		api.ErrZero:  {{Cols: one, Rows: fits, Query: written.Query("1 / k")}},
		api.ErrNull:  {{Cols: one, Rows: [][]api.Value{{{}}}, Query: written.Query("1 / k")}},
	}
	for why, columns := range sample.WrongColumns() {
		for _, cols := range columns {
			l[why] = append(l[why], sample.Asked{Cols: cols, Rows: tooMany})
		}
	}
	for want, some := range l {
		for _, a := range some {
			for _, workers := range wrongWorkers() {
				if told, why := Run(a.Cols, a.Rows, a.Query, workers); len(told) > 0 || why != api.ErrRange {
					t.Errorf("%+v, asked by %d workers, tells %s (%d)", a, workers, written.Rows(told), why)
				}
			}
			if want != api.OK {
				mustTell(t, a, "", want)
			}
		}
	}
}

// TestManyQueries: P15.2, what query's Run answers, of queries and rows by chance.
func TestManyQueries(t *testing.T) {
	chance := rand.New(rand.NewSource(15))
	counts := map[api.Errno]int{}
	for range 20000 {
		q, rows := sample.Query(chance.Intn), sample.RowsToAsk(chance.Intn)
		want, wanted := query.Run(sample.Columns(), rows, q)
		workers := 1 + chance.Intn(api.MaxWork)
		if told, why := Run(sample.Columns(), rows, q, workers); !sample.SameRows(told, want) || why != wanted {
			t.Fatalf("Run(%+v, %+v, %d) = %s (%d), want %s (%d)", rows, q, workers, written.Rows(told), why, written.Rows(want), wanted)
		}
		counts[wanted]++
	}
	for _, why := range []api.Errno{api.OK, api.ErrSize, api.ErrKind, api.ErrForm, api.ErrNone, api.ErrRange, api.ErrZero, api.ErrNull} {
		if counts[why] < 60 {
			t.Errorf("of queries there were %v", counts)
		}
	}
}

// TestAllAtOnce: several who ask at once, of the same rows, are told what one is told.
func TestAllAtOnce(t *testing.T) {
	chance := rand.New(rand.NewSource(51))
	rows := sample.Rows(chance.Intn, api.MaxRows)
	for _, text := range []string{"x , t", "i , COUNT ( * ) , MAX ( t ) GROUP BY i ORDER BY 2", "t || '' , x WHERE b ORDER BY 1"} {
		q := written.Query(text)
		want, why := query.Run(sample.Columns(), rows, q)
		if len(want) == 0 || why != api.OK {
			t.Fatalf("%s tells nothing (%d)", text, why)
		}
		var all sync.WaitGroup
		for workers := 1; workers <= api.MaxWork; workers++ {
			all.Go(func() {
				for range 50 {
					if told, why := Run(sample.Columns(), rows, q, workers); !sample.SameRows(told, want) || why != api.OK {
						t.Errorf("%s, asked by %d workers, tells %s (%d), want %s", text, workers, written.Rows(told), why, written.Rows(want))
						return
					}
				}
			})
		}
		all.Wait()
	}
}

// TestNobodyIsLeft: when all is told, or refused, no worker goes on.
func TestNobodyIsLeft(t *testing.T) {
	before := runtime.NumGoroutine()
	for _, text := range []string{"x", "COUNT ( * )", "1 / ( x - 3 )", "1 / 0", "y"} {
		for range 100 {
			Run(sample.KeyedColumns(), sample.FiveRows(), written.Query(text), api.MaxWork)
		}
	}
	for range 1000 {
		if runtime.NumGoroutine() <= before {
			return
		}
		time.Sleep(time.Millisecond)
	}
	t.Errorf("there are %d goroutines, there were %d", runtime.NumGoroutine(), before)
}

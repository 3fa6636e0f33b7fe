package expr

import (
	"math"
	"math/rand"
	"reflect"
	"slices"
	"strings"
	"testing"

	"chirograph/api"
	"chirograph/lex"
	"chirograph/sample"
)

// cut a text into tokens, however many; none of them has a blank.
func cut(t *testing.T, text string) []api.Token {
	t.Helper()
	var all []api.Token
	for _, word := range strings.Fields(text) {
		l, _, why := lex.Cut(word)
		if why != api.OK {
			t.Fatalf("no tokens: %s", text)
		}
		all = append(all, l...)
	}
	return all
}

// mustParse a text as just this expression.
func mustParse(t *testing.T, text string, want api.Expr) {
	t.Helper()
	if e, place, why := Parse(cut(t, text)); !reflect.DeepEqual(e, want) || place != 0 || why != api.OK {
		t.Errorf("Parse of %s = %+v %d %d, want %+v 0 0", text, e, place, why, want)
	}
}

// mustNotParse tokens, and tell nothing but the place and why.
func mustNotParse(t *testing.T, l []api.Token, at int, want api.Errno) {
	t.Helper()
	if e, place, why := Parse(l); !reflect.DeepEqual(e, api.Expr{}) || place != at || why != want {
		t.Errorf("Parse of %s = %+v %d %d, want none %d %d", textOf(t, l), e, place, why, at, want)
	}
}

// mustRead tokens from a place on as this expression, up to another place.
func mustRead(t *testing.T, l []api.Token, from int, want api.Expr, end int) {
	t.Helper()
	if e, to, place, why := Ahead(l, from); !reflect.DeepEqual(e, want) || to != end || place != 0 || why != api.OK {
		t.Errorf("Ahead of %+v, %d = %+v %d %d %d, want %+v %d 0 0", l, from, e, to, place, why, want, end)
	}
}

// mustNotRead tokens from a place on, and tell nothing but the place and why.
func mustNotRead(t *testing.T, l []api.Token, from, at int, want api.Errno) {
	t.Helper()
	if e, to, place, why := Ahead(l, from); !reflect.DeepEqual(e, api.Expr{}) || to != 0 || place != at || why != want {
		t.Errorf("Ahead of %+v, %d = %+v %d %d %d, want none 0 %d %d", l, from, e, to, place, why, at, want)
	}
}

// TestFaults: P8.4, the first token that can't stand, and the end where one must; from each place on behind other tokens.
func TestFaults(t *testing.T) {
	for _, c := range []struct {
		text string
		at   int
		want api.Errno
	}{
		{"", 0, api.ErrShort}, {"(", 1, api.ErrShort}, {"-", 1, api.ErrShort}, {"NOT", 1, api.ErrShort}, {"( a", 2, api.ErrShort}, {"( ( a )", 4, api.ErrShort},
		{"a +", 2, api.ErrShort}, {"a OR", 2, api.ErrShort}, {"a AND", 2, api.ErrShort}, {"a = b AND", 4, api.ErrShort}, {"a <=", 2, api.ErrShort}, {"a ||", 2, api.ErrShort}, {"a IS", 2, api.ErrShort},
		{"LENGTH", 1, api.ErrShort}, {"LENGTH (", 2, api.ErrShort}, {"LENGTH ( a", 3, api.ErrShort},
		{"COALESCE", 1, api.ErrShort}, {"COALESCE (", 2, api.ErrShort}, {"COALESCE ( a", 3, api.ErrShort}, {"COALESCE ( a ,", 4, api.ErrShort}, {"COALESCE ( a , b", 5, api.ErrShort},
		{")", 0, api.ErrForm}, {",", 0, api.ErrForm}, {".", 0, api.ErrForm}, {"=", 0, api.ErrForm}, {"+ a", 0, api.ErrForm}, {"* a", 0, api.ErrForm}, {"|| a", 0, api.ErrForm}, {"; a", 0, api.ErrForm},
		{"AND a", 0, api.ErrForm}, {"OR a", 0, api.ErrForm}, {"IS NULL", 0, api.ErrForm}, {"SELECT a", 0, api.ErrForm}, {"N", 0, api.ErrForm}, {"NULLS", 0, api.ErrForm}, {"COUNT ( a )", 0, api.ErrForm},
		{"( )", 1, api.ErrForm}, {"( a b )", 2, api.ErrForm}, {"( a , b )", 2, api.ErrForm}, {"( a = b = c )", 4, api.ErrForm}, {"( a IS NULL IS NULL )", 4, api.ErrForm}, {"( a ;", 2, api.ErrForm},
		{"a + )", 2, api.ErrForm}, {"a + , b", 2, api.ErrForm}, {"a + NOT b", 2, api.ErrForm}, {"a = NOT b", 2, api.ErrForm}, {"- NOT a", 1, api.ErrForm}, {"a || NOT b", 2, api.ErrForm}, {"a * * b", 2, api.ErrForm},
		{"a IS NOT NULL", 2, api.ErrForm}, {"a IS TRUE", 2, api.ErrForm}, {"a IS b", 2, api.ErrForm}, {"a IS ( NULL )", 2, api.ErrForm}, {"a AND OR b", 2, api.ErrForm}, {"NOT AND", 1, api.ErrForm},
		{"LENGTH a", 1, api.ErrForm}, {"LENGTH ( )", 2, api.ErrForm}, {"LENGTH ( a , b )", 3, api.ErrForm}, {"LENGTH LENGTH ( a )", 1, api.ErrForm},
		{"COALESCE ( a )", 3, api.ErrForm}, {"COALESCE ( a , )", 4, api.ErrForm}, {"COALESCE ( a , b , c )", 5, api.ErrForm}, {"COALESCE ( , a )", 2, api.ErrForm}, {"COALESCE a", 1, api.ErrForm},
		{"= (", 0, api.ErrForm}, {"a = = b +", 2, api.ErrForm},
	} {
		l := cut(t, c.text)
		mustNotParse(t, l, c.at, c.want)
		mustNotRead(t, l, 0, c.at, c.want)
		ahead := cut(t, "( a + 'x' ) NOT ;")
		for from := range len(ahead) + 1 {
			mustNotRead(t, append(slices.Clone(ahead[:from]), l...), from, from+c.at, c.want)
		}
	}
}

// TestAheadEnds: P8.4, the longest expression, whatever stands ahead of it and behind it.
func TestAheadEnds(t *testing.T) {
	for _, c := range []struct {
		text string
		to   int
	}{
		{"a", 1}, {"a b", 1}, {"a a", 1}, {"a 1", 1}, {"a 'x'", 1}, {"a #0000000000000000", 1}, {"a NULL", 1}, {"a TRUE", 1}, {"a NOT b", 1}, {"a ( b )", 1}, {"a )", 1}, {"a ,", 1}, {"a . b", 1}, {"a ; +", 1},
		{"a LENGTH ( a )", 1}, {"a FROM", 1}, {"a ANDS b", 1}, {"a DESC", 1}, {"a * b c", 3}, {"a + 1 , b", 3}, {"( a ) b", 3}, {"( a ) )", 3}, {"LENGTH ( a ) ( b )", 4}, {"COALESCE ( a , b ) , c", 6},
		{"a = b = c", 3}, {"a = b < c", 3}, {"a = b IS NULL", 3}, {"a IS NULL IS NULL", 3}, {"a IS NULL = b", 3}, {"a IS NULL + b", 3}, {"a IS NULL || b", 3}, {"a IS NULL NULL", 3},
		{"a = b + c = d", 5}, {"NOT a = b = c", 4}, {"a AND b = c = d", 5}, {"a OR NOT b IS NULL > c", 6}, {"a = b AND c = d", 7}, {"a IS NULL OR b IS NULL AND c", 9}, {"- a - - b * c", 7},
	} {
		l := cut(t, c.text)
		want, _, why := Parse(l[:c.to])
		if why != api.OK {
			t.Fatalf("Parse of the first %d of %s = %d", c.to, c.text, why)
		}
		mustRead(t, l, 0, want, c.to)
		for _, ahead := range []string{"", "(", "b", "a +", "SELECT ;", ", NOT -"} {
			begin := cut(t, ahead)
			mustRead(t, append(slices.Clone(begin), l...), len(begin), want, len(begin)+c.to)
		}
		if c.to < len(l) {
			mustNotParse(t, l, c.to, api.ErrForm)
		}
	}
}

// TestFromWhere: P8.4, wrong places are refused ahead of all that stands there; the end is a place.
func TestFromWhere(t *testing.T) {
	for _, text := range []string{"", "a", "a + b", "( )", "; ; ;", "a = b = c"} {
		l := cut(t, text)
		for _, from := range sample.WrongPlaces(len(l) + 1) {
			mustNotRead(t, l, from, 0, api.ErrRange)
		}
		mustNotRead(t, l, len(l), len(l), api.ErrShort)
	}
	mustNotRead(t, nil, 0, 0, api.ErrShort)
	room := cut(t, "a + b")
	mustNotRead(t, room[:2], 0, 2, api.ErrShort)
	mustNotRead(t, room[:1], 2, 0, api.ErrRange)
}

// spoilt: a token as one that may not be, in each way that leaves it looking the same.
func spoilt(t api.Token) []api.Token {
	var l []api.Token
	add := func(change func(t *api.Token)) {
		other := t
		change(&other)
		if lex.Check(other) != api.OK {
			l = append(l, other)
		}
	}
	for _, i := range []int{1, -1, math.MinInt} {
		add(func(t *api.Token) { t.Int = i })
	}
	for _, b := range []uint64{1, 1 << 63} {
		add(func(t *api.Token) { t.Bits = b })
	}
	for _, s := range []string{"a", "NULL", "=", "\xff", sample.Long(api.MaxText + 1), ""} {
		add(func(t *api.Token) { t.Text = s })
	}
	for _, k := range []int{0, -1, 7, 257, math.MaxInt, api.Name, api.Word, api.Sign} {
		add(func(t *api.Token) { t.Kind = k })
	}
	return l
}

// TestSpoiltTokens: P8.4, a token that may not be can't stand anywhere: it is a fault where one must stand, and goes on with nothing.
func TestSpoiltTokens(t *testing.T) {
	for _, text := range []string{
		"a", "7", "'x'", "#3ff0000000000000", "NULL", "TRUE", "FALSE", "( a )", "- a", "NOT a", "LENGTH ( a )", "COALESCE ( a , 'b' )", "a IS NULL",
		"a + b", "a - 7 * b / c", "a || b", "a OR NOT b AND c", "a = b", "a <> b", "a < b", "a <= b", "a > b", "a >= b", "( a = ( - b ) ) IS NULL OR c",
	} {
		l := cut(t, text)
		whole, _, _ := Parse(l)
		for i := range l {
			before, _, _, short := Ahead(l[:i], 0)
			for _, bad := range spoilt(l[i]) {
				tokens := slices.Clone(l)
				tokens[i] = bad
				if short == api.OK {
					mustRead(t, tokens, 0, before, i)
				} else {
					mustNotRead(t, tokens, 0, i, api.ErrForm)
				}
				if e, place, why := Parse(tokens); !reflect.DeepEqual(e, api.Expr{}) || place != i || why != api.ErrForm {
					t.Errorf("Parse of %+v = %+v %d %d, want none %d 3", tokens, e, place, why, i)
				}
				mustRead(t, append(slices.Clone(l), bad), 0, whole, len(l))
				mustRead(t, append([]api.Token{bad}, l...), 1, whole, len(l)+1)
			}
		}
	}
}

// mustReadByRules: Ahead and Parse of a text, as the rules of P8.1 say.
func mustReadByRules(t *testing.T, r *readings, text string) {
	t.Helper()
	l := cut(t, text)
	want, end, at, fault := r.ahead(t, text)
	if e, to, place, why := Ahead(l, 0); !reflect.DeepEqual(e, want) || to != end || place != at || why != fault {
		t.Fatalf("Ahead of %s = %+v %d %d %d, want %+v %d %d %d", text, e, to, place, why, want, end, at, fault)
	}
	switch {
	case fault != api.OK:
	case end < len(l):
		want, at, fault = api.Expr{}, end, api.ErrForm
	case depth(want) > api.MaxDepth || count(want) > api.MaxNodes:
		want, fault = api.Expr{}, api.ErrSize
	}
	if e, place, why := Parse(l); !reflect.DeepEqual(e, want) || place != at || why != fault {
		t.Fatalf("Parse of %s = %+v %d %d, want %+v %d %d", text, e, place, why, want, at, fault)
	}
}

// TestAllShortTexts: P8.4 and P8.5, all that begins as an expression does, up to five tokens, and what can't go on there.
func TestAllShortTexts(t *testing.T) {
	words := strings.Fields("a 1 NULL ( ) , NOT AND OR IS = < || + - * LENGTH COALESCE ;")
	r := readings{found: map[key][]api.Expr{}}
	texts := []string{""}
	for len(texts) > 0 {
		text := texts[0]
		texts = texts[1:]
		mustReadByRules(t, &r, text)
		for _, word := range words {
			more := strings.TrimSpace(text + " " + word)
			if r.goesOn(t, more) && len(strings.Fields(more)) <= 4 {
				texts = append(texts, more)
				continue
			}
			mustReadByRules(t, &r, more)
			mustReadByRules(t, &r, more+" a")
		}
	}
}

// TestManyTexts: P8.4 and P8.5, long texts by chance, most of whose tokens go on where they stand.
func TestManyTexts(t *testing.T) {
	words := strings.Fields("a b 7 'x' #3ff0000000000000 NULL TRUE FALSE ( ( ( ) ) ) ) , , NOT NOT AND OR IS IS NULL = <> < <= > >= || + - - * / LENGTH COALESCE COALESCE . ; SELECT")
	chance := rand.New(rand.NewSource(9))
	for range 1000 {
		r := readings{found: map[key][]api.Expr{}}
		text := ""
		for range chance.Intn(15) {
			more := strings.TrimSpace(text + " " + words[chance.Intn(len(words))])
			for range 20 {
				if r.goesOn(t, more) {
					break
				}
				more = strings.TrimSpace(text + " " + words[chance.Intn(len(words))])
			}
			text = more
		}
		mustReadByRules(t, &r, text)
	}
}

// repeated: tokens so many times ahead of others, and so many behind these.
func repeated(t *testing.T, begin string, n int, middle, end string) []api.Token {
	t.Helper()
	return slices.Concat(slices.Repeat(cut(t, begin), n), cut(t, middle), slices.Repeat(cut(t, end), n))
}

// TestMaxTokens: P8.5, more than MaxTokens are refused whatever they are; so many are not.
func TestMaxTokens(t *testing.T) {
	full := repeated(t, "(", api.MaxTokens/2-1, "- a", ")")
	mustParse(t, textOf(t, full), sample.Op(api.Neg, sample.Col("a")))
	mustNotParse(t, repeated(t, "(", api.MaxTokens/2, "a", ")"), 0, api.ErrSize)
	mustRead(t, repeated(t, "(", api.MaxTokens/2, "a", ")"), 0, sample.Col("a"), api.MaxTokens+1)
	mustNotParse(t, slices.Repeat(cut(t, ";"), api.MaxTokens+1), 0, api.ErrSize)
	mustNotParse(t, slices.Repeat(cut(t, ";"), api.MaxTokens), 0, api.ErrForm)
	mustNotParse(t, slices.Repeat(cut(t, "-"), api.MaxTokens), api.MaxTokens, api.ErrShort)
	mustNotParse(t, slices.Repeat(cut(t, "-"), api.MaxTokens+1), 0, api.ErrSize)
	mustNotParse(t, cut(t, "a"+strings.Repeat(" b", api.MaxTokens)), 0, api.ErrSize)
	mustNotParse(t, cut(t, "a"+strings.Repeat(" b", api.MaxTokens-1)), 1, api.ErrForm)
	if _, place, why := Parse(make([]api.Token, api.MaxTokens+1)); place != 0 || why != api.ErrSize {
		t.Errorf("Parse of many wrong tokens = %d %d, want 0 1", place, why)
	}
}

// TestTooLargeToParse: P8.5, what Check refuses comes behind all else, with place 0; Ahead doesn't ask.
func TestTooLargeToParse(t *testing.T) {
	for high := api.MaxDepth - 1; high < 12; high++ {
		for _, c := range []struct {
			l []api.Token
			e api.Expr
		}{
			{repeated(t, "-", high-1, "a", ""), tower(api.Neg, high, 0)},
			{repeated(t, "NOT", high-1, "a", ""), tower(api.Not, high, 0)},
			{repeated(t, "LENGTH (", high-1, "a", ")"), tower(api.Length, high, 0)},
			{repeated(t, "", high-1, "a", "- b"), tower(api.Sub, high, 0)},
			{repeated(t, "", high-1, "a", "OR b"), tower(api.Or, high, 0)},
			{repeated(t, "b - (", high-1, "a", ")"), tower(api.Sub, high, 1)},
			{repeated(t, "COALESCE ( b ,", high-1, "a", ")"), tower(api.Coalesce, high, 1)},
		} {
			mustRead(t, c.l, 0, c.e, len(c.l))
			if high <= api.MaxDepth {
				mustParse(t, textOf(t, c.l), c.e)
				continue
			}
			mustNotParse(t, c.l, 0, api.ErrSize)
			mustNotParse(t, append(slices.Clone(c.l), cut(t, "a")...), len(c.l), api.ErrForm)
			mustNotParse(t, append(slices.Clone(c.l), cut(t, "+")...), len(c.l)+1, api.ErrShort)
		}
	}
	for n := 1; n < api.MaxNodes+5; n++ {
		l := cut(t, bushText(n))
		mustRead(t, l, 0, bush(n), len(l))
		if n <= api.MaxNodes {
			mustParse(t, bushText(n), bush(n))
		} else {
			mustNotParse(t, l, 0, api.ErrSize)
		}
	}
}

// bushText is how a bush is written.
func bushText(n int) string {
	switch n {
	case 1:
		return "a"
	case 2:
		return "NOT NULL"
	}
	left := (n - 1) / 2
	return "COALESCE ( " + bushText(left) + " , " + bushText(n-1-left) + " )"
}

// inmost part of an expression, always the one on this side, and how many stand around it; without a call in a call.
func inmost(e api.Expr, side int) (api.Expr, int) {
	n := 0
	for len(e.Args) > 0 {
		e = e.Args[min(side, len(e.Args)-1)]
		n++
	}
	return e, n
}

// TestDeep: P8.4, how deep an expression is isn't asked, nor how many brackets there are.
func TestDeep(t *testing.T) {
	const deep = 1 << 16
	for _, c := range []struct {
		begin, end string
		side, high int
	}{
		{"(", ")", 0, 0}, {"-", "", 0, deep}, {"NOT", "", 0, deep}, {"", "+ b", 0, deep}, {"", "AND b", 0, deep},
		{"LENGTH (", ")", 0, deep}, {"COALESCE ( b ,", ")", 1, deep}, {"COALESCE (", ", b )", 0, deep}, {"b = (", ")", 1, deep},
	} {
		l := repeated(t, c.begin, deep, "a", c.end)
		e, to, place, why := Ahead(l, 0)
		if leaf, high := inmost(e, c.side); to != len(l) || place != 0 || why != api.OK || high != c.high || leaf.Name != "a" {
			t.Errorf("Ahead of %d %s = depth %d, %d %d %d, want %d, %d 0 0", deep, c.begin, high, to, place, why, c.high, len(l))
		}
		if c.begin != "" {
			mustNotBeRead(t, repeated(t, c.begin, deep, "", ""))
		}
	}
}

// mustNotBeRead: many tokens end too early, or are followed by one that can't stand.
func mustNotBeRead(t *testing.T, l []api.Token) {
	t.Helper()
	if _, to, place, why := Ahead(l, 0); to != 0 || place != len(l) || why != api.ErrShort {
		t.Errorf("Ahead of %d tokens = %d %d %d, want 0 %d 4", len(l), to, place, why, len(l))
	}
	if _, to, place, why := Ahead(append(l, sample.Sign(";")), 0); to != 0 || place != len(l) || why != api.ErrForm {
		t.Errorf("Ahead of %d tokens = %d %d %d, want 0 %d 3", len(l)+1, to, place, why, len(l))
	}
}

// lists of parts that stand in an expression, each with its spare room.
func lists(e api.Expr) [][]api.Expr {
	var l [][]api.Expr
	if cap(e.Args) > 0 {
		l = append(l, e.Args[:cap(e.Args)])
	}
	for _, part := range e.Args {
		l = append(l, lists(part)...)
	}
	return l
}

// TestListsStayApart: what is handed in stays as it is, and answers share no memory, spare room neither, with each other or within one.
func TestListsStayApart(t *testing.T) {
	const text = "( a + 1 ) * - b <= COALESCE ( LENGTH ( 'x' ) , 7 ) AND NOT c IS NULL"
	l := cut(t, text)
	room := append(slices.Clone(l), sample.Quote("'"), sample.Name("a"))
	before := slices.Clone(room)
	ahead := func() api.Expr { e, _, _, _ := Ahead(room[:len(l)], 0); return e }
	parse := func() api.Expr { e, _, _ := Parse(room[:len(l)]); return e }
	for _, read := range []func() api.Expr{ahead, parse} {
		other := read()
		want := sample.CopyOf(other)
		for i := range lists(want) {
			e := read()
			kept := lists(sample.CopyOf(e))
			all := lists(e)
			for j := range all[i] {
				all[i][j] = api.Expr{Op: 77}
			}
			for j := range all {
				if j != i && !slices.EqualFunc(all[j][:len(kept[j])], kept[j], sameButParts) {
					t.Errorf("lists %d and %d share memory", i, j)
				}
			}
		}
		if !reflect.DeepEqual(other, want) || !reflect.DeepEqual(read(), want) {
			t.Errorf("answers share memory: %+v", other)
		}
	}
	if !slices.Equal(room, before) {
		t.Errorf("tokens were changed: %+v", room)
	}
	mustShowApart(t, ahead())
}

// sameButParts: alike, but for what is in their parts.
func sameButParts(a, b api.Expr) bool {
	return a.Op == b.Op && a.Name == b.Name && a.Value == b.Value && len(a.Args) == len(b.Args)
}

// mustShowApart: an expression stays as it is, its spare room, too, and answers of Show share nothing.
func mustShowApart(t *testing.T, e api.Expr) {
	t.Helper()
	room := sample.Roomy([]api.Expr{e})
	before := sample.WholeOf(room)
	one, _ := Show(room[0])
	two, _ := Show(room[0])
	kept := slices.Clone(two)
	for i := range one[:cap(one)] {
		one[:cap(one)][i] = sample.Word("SPOILT")
	}
	if !slices.Equal(two, kept) {
		t.Errorf("answers of Show share their tokens: %+v", two)
	}
	if !reflect.DeepEqual(sample.WholeOf(room), before) {
		t.Errorf("Show changed %+v", e)
	}
}

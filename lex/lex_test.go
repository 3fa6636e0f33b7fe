package lex

import (
	"math"
	"math/big"
	"math/rand"
	"regexp"
	"slices"
	"strconv"
	"strings"
	"testing"
	"unicode/utf8"

	"chirograph/api"
	"chirograph/sample"
)

// allSigns that P7.1 names.
func allSigns() []string {
	return strings.Fields("( ) , . = < > <= >= <> + - * / || ;")
}

// written: a token, and how it is written.
type written struct {
	t    api.Token
	text string
}

// writings of tokens that may be, written out by hand.
func writings() []written {
	l := []written{
		{sample.Name("a"), "a"}, {sample.Name("z"), "z"}, {sample.Name("az"), "az"}, {sample.Name("a_"), "a_"}, {sample.Name("a0"), "a0"}, {sample.Name("z9_9z"), "z9_9z"},
		{sample.Name("x__0"), "x__0"}, {sample.Name("abcdefgh"), "abcdefgh"}, {sample.Name("a_______"), "a_______"}, {sample.Name("a1234567"), "a1234567"}, {sample.Name("null"), "null"},
		{sample.Word("A"), "A"}, {sample.Word("Z"), "Z"}, {sample.Word("NULL"), "NULL"}, {sample.Word("AZ"), "AZ"}, {sample.Word("COALESCE"), "COALESCE"}, {sample.Word("NOWORD"), "NOWORD"},
		{sample.Number(0), "0"}, {sample.Number(1), "1"}, {sample.Number(7), "7"}, {sample.Number(9), "9"}, {sample.Number(10), "10"}, {sample.Number(100), "100"}, {sample.Number(1234567890), "1234567890"},
		{sample.Number(999999999999999999), "999999999999999999"}, {sample.Number(1000000000000000000), "1000000000000000000"},
		{sample.Number(math.MaxInt - 1), "9223372036854775806"}, {sample.Number(math.MaxInt), "9223372036854775807"},
		{sample.Quote(""), "''"}, {sample.Quote("a"), "'a'"}, {sample.Quote("'"), "''''"}, {sample.Quote("''"), "''''''"}, {sample.Quote("it's"), "'it''s'"}, {sample.Quote("'a'"), "'''a'''"},
		{sample.Quote(" "), "' '"}, {sample.Quote("\x00\t\n\r\x7f"), "'\x00\t\n\r\x7f'"}, {sample.Quote("--"), "'--'"}, {sample.Quote("--'\n"), "'--''\n'"}, {sample.Quote("A 1 #? \""), "'A 1 #? \"'"},
		{sample.Quote("\u00e9"), "'\u00e9'"}, {sample.Quote("\u00e9'\u00e9"), "'\u00e9''\u00e9'"}, {sample.Quote("\ufffd"), "'\ufffd'"}, {sample.Quote("\u2019"), "'\u2019'"}, {sample.Quote("\U0010ffff'"), "'\U0010ffff'''"},
		{sample.Quote(sample.Long(api.MaxText)), "'" + sample.Long(api.MaxText) + "'"},
		{sample.Quote(strings.Repeat("'", api.MaxText)), strings.Repeat("'", 2*api.MaxText+2)},
		{sample.Quote(strings.Repeat("\u00e9", api.MaxText/2)), "'" + strings.Repeat("\u00e9", api.MaxText/2) + "'"},
		{sample.Hex(0), "#0000000000000000"}, {sample.Hex(1), "#0000000000000001"}, {sample.Hex(1<<63 | 1), "#8000000000000001"}, {sample.Hex(0x3ff0000000000000), "#3ff0000000000000"},
		{sample.Hex(0x0123456789abcdef), "#0123456789abcdef"}, {sample.Hex(0xfedcba9876543210), "#fedcba9876543210"},
		{sample.Hex(0x7ff0000000000000), "#7ff0000000000000"}, {sample.Hex(0xfff0000000000000), "#fff0000000000000"}, {sample.Hex(0x7fefffffffffffff), "#7fefffffffffffff"},
	}
	for _, s := range allSigns() {
		l = append(l, written{sample.Sign(s), s})
	}
	return l
}

// refused: a token that may not be, and why.
type refused struct {
	t    api.Token
	want api.Errno
}

// wrongTexts of names, words and signs, none of them too long.
func wrongTexts() map[int][]string {
	return map[int][]string{
		api.Name: {"", "A", "aB", "Ab", "1", "1a", "_", "_a", "a-", "a b", " a", "a ", "a.b", "'a'", "#", "\u00e9", "a\u00e9", "a\xff", "a\x00", "`", "{", "a{", "a/", "a:", "abcdefgH"},
		api.Word: {"", "a", "Ab", "aB", "A1", "A_", "1", "A B", " A", "A ", "@", "[", "A[", "\u00c9", "A\xff", "A\x00", "NULLNUL."},
		api.Sign: {"", " ", "a", "A", "1", "'", "#", "?", "!", "!=", "|", "|||", "==", "=<", "=>", "<<", ">>", "><", "<=>", "<=<", "--", "()", " (", "( ", "(,", ":", "_", "\"", "%", "&", "[", "\n", "\x00", "\xff", "\u2264", "++", ";;"},
	}
}

func refusedTokens() []refused {
	var l []refused
	add := func(want api.Errno, tokens ...api.Token) {
		for _, t := range tokens {
			l = append(l, refused{t, want})
		}
	}
	for _, k := range []int{0, -1, 7, 8, 257, 1<<32 + 1, math.MinInt, math.MaxInt} {
		add(api.ErrKind, api.Token{Kind: k}, api.Token{Kind: k, Text: sample.Long(api.MaxText + 1)}, api.Token{Kind: k, Text: "a"}, api.Token{Kind: k, Int: -1, Bits: 1 << 63, Text: "\xff"})
	}
	for k, most := range map[int]int{api.Name: api.MaxName, api.Word: api.MaxName, api.Quote: api.MaxText} {
		for _, text := range []string{sample.Long(most + 1), strings.ToUpper(sample.Long(most + 1)), sample.Long(1000), sample.Long(most) + "\xff"} {
			add(api.ErrSize, api.Token{Kind: k, Text: text}, api.Token{Kind: k, Text: text, Int: 1, Bits: 1})
		}
	}
	for k, texts := range wrongTexts() {
		for _, s := range texts {
			add(api.ErrForm, api.Token{Kind: k, Text: s})
		}
	}
	for _, s := range []string{"a", "A", "0", "=", " ", sample.Long(api.MaxName + 1), sample.Long(api.MaxText + 1), sample.Long(1000)} {
		add(api.ErrForm, api.Token{Kind: api.Number, Text: s}, api.Token{Kind: api.Hex, Text: s})
	}
	for _, s := range []string{sample.Long(api.MaxName + 1), sample.Long(api.MaxText + 1), strings.Repeat("=", api.MaxText+1)} {
		add(api.ErrForm, sample.Sign(s))
	}
	for _, i := range []int{-1, -7, math.MinInt, math.MinInt + 1} {
		add(api.ErrForm, sample.Number(i))
	}
	for _, s := range []string{"\xc3", "a\xff", "\x80", "\xc0\x80", "\xed\xa0\x80", "\xf4\x90\x80\x80", sample.Long(api.MaxText-1) + "\xc3", "'\xff'"} {
		add(api.ErrForm, sample.Quote(s))
	}
	for _, b := range []uint64{1 << 63, 0x7ff8000000000000, 0x7ff0000000000001, 0xfff8000000000000, 0xfff0000000000001, math.MaxUint64} {
		add(api.ErrForm, sample.Hex(b))
	}
	return append(l, withOtherFields()...)
}

// withOtherFields: tokens that may be, but for a field that is not of their Kind.
func withOtherFields() []refused {
	var l []refused
	for _, w := range writings() {
		for _, i := range []int{1, -1, math.MinInt} {
			if t := w.t; t.Kind != api.Number {
				t.Int = i
				l = append(l, refused{t, api.ErrForm})
			}
		}
		for _, b := range []uint64{1, 1 << 63} {
			if t := w.t; t.Kind != api.Hex {
				t.Bits = b
				l = append(l, refused{t, api.ErrForm})
			}
		}
		if t := w.t; t.Kind == api.Number || t.Kind == api.Hex {
			t.Text = "1"
			l = append(l, refused{t, api.ErrForm})
		}
	}
	return l
}

// TestCheckTakes: P7.1 and P7.2, tokens that may be.
func TestCheckTakes(t *testing.T) {
	for _, w := range writings() {
		if e := Check(w.t); e != api.OK {
			t.Errorf("Check(%+v) = %d, want 0", w.t, e)
		}
	}
}

// TestCheckRefuses: P7.2, each error and which one stands first.
func TestCheckRefuses(t *testing.T) {
	for _, r := range refusedTokens() {
		if e := Check(r.t); e != r.want {
			t.Errorf("Check(%+v) = %d, want %d", r.t, e, r.want)
		}
	}
}

// TestEachByte: P7.1, which bytes may begin a name, a word or a sign, and which may go on in them; and which text of two bytes is a sign.
func TestEachByte(t *testing.T) {
	forms := map[int]*regexp.Regexp{
		api.Name: regexp.MustCompile(`\A[a-z][a-z0-9_]*\z`),
		api.Word: regexp.MustCompile(`\A[A-Z]+\z`),
		api.Sign: regexp.MustCompile(`\A(?:[(),.=<>+*/;-]|<=|>=|<>|\|\|)\z`),
	}
	for kind, form := range forms {
		for i := range 256 {
			for j := -1; j < 256; j++ {
				b := []byte{byte(i)}
				if j >= 0 {
					b = append(b, byte(j))
				}
				want := api.ErrForm
				if form.Match(b) {
					want = api.OK
				}
				if e := Check(api.Token{Kind: kind, Text: string(b)}); e != want {
					t.Fatalf("Check(%d %q) = %d, want %d", kind, b, e, want)
				}
			}
		}
	}
}

// mustCut a text into just these tokens.
func mustCut(t *testing.T, text string, want ...api.Token) {
	t.Helper()
	if l, at, e := Cut(text); !slices.Equal(l, want) || at != 0 || e != api.OK {
		t.Errorf("Cut(%q) = %+v %d %d, want %+v 0 0", text, l, at, e, want)
	}
}

// mustRefuse a text, and tell nothing but the place and why.
func mustRefuse(t *testing.T, text string, at int, want api.Errno) {
	t.Helper()
	if l, place, e := Cut(text); len(l) != 0 || place != at || e != want {
		t.Errorf("Cut(%q) = %+v %d %d, want none %d %d", text, l, place, e, at, want)
	}
}

// gaps that may stand between tokens, and ahead of the first and behind the last one.
func gaps() []string {
	return []string{" ", "\t", "\n", " \t\n ", "--\n", "-- \n", "---\n", "--x 'y\n", " --\xff\x00#\n\t--?\n\n", "--\n--\n", "\n--" + sample.Long(90) + "\n"}
}

// TestCutOne: P7.3 and P7.1, tokens alone, and with what may stand around them.
func TestCutOne(t *testing.T) {
	for _, w := range writings() {
		mustCut(t, w.text, w.t)
		mustCut(t, w.text+" --?'", w.t)
		for _, gap := range gaps() {
			if w.text == "-" {
				gap = " " + gap // with a remark behind it the sign would begin one
			}
			mustCut(t, gap+w.text, w.t)
			mustCut(t, gap+w.text+gap, w.t)
			mustCut(t, w.text+gap+w.text, w.t, w.t)
		}
	}
}

// TestCutNone: P7.3, texts without a token.
func TestCutNone(t *testing.T) {
	for _, text := range append(gaps(), "", "--", "---", "--x", "-- ?", " --\xff", "--'", "\n\n--#", strings.Repeat(" ", api.MaxSource), "--"+sample.Long(api.MaxSource-2), strings.Repeat("--\n", api.MaxSource/3)) {
		mustCut(t, text)
	}
}

// TestCutMany: P7.3, where a token ends that has no blank behind it.
func TestCutMany(t *testing.T) {
	name, word, number, quote, hex, sign := sample.Name, sample.Word, sample.Number, sample.Quote, sample.Hex, sample.Sign
	mustCut(t, "a<=7--x", name("a"), sign("<="), number(7))
	mustCut(t, "aBa1A1a_b", name("a"), word("B"), name("a1"), word("A"), number(1), name("a_b"))
	mustCut(t, "12a0", number(12), name("a0"))
	mustCut(t, "0a0A0", number(0), name("a0"), word("A"), number(0))
	mustCut(t, "1.5", number(1), sign("."), number(5))
	mustCut(t, "0.t", number(0), sign("."), name("t"))
	mustCut(t, "-7", sign("-"), number(7))
	mustCut(t, "a-b", name("a"), sign("-"), name("b"))
	mustCut(t, "a--b", name("a"))
	mustCut(t, "a- -b", name("a"), sign("-"), sign("-"), name("b"))
	mustCut(t, "a---b\n-c", name("a"), sign("-"), name("c"))
	mustCut(t, "a--b\nc--d", name("a"), name("c"))
	mustCut(t, "<--\n=", sign("<"), sign("="))
	mustCut(t, "<<=<>>=>", sign("<"), sign("<="), sign("<>"), sign(">="), sign(">"))
	mustCut(t, "<=>", sign("<="), sign(">"))
	mustCut(t, "<==", sign("<="), sign("="))
	mustCut(t, "=<=>", sign("="), sign("<="), sign(">"))
	mustCut(t, "<>=", sign("<>"), sign("="))
	mustCut(t, "><", sign(">"), sign("<"))
	mustCut(t, "< =", sign("<"), sign("="))
	mustCut(t, "||||", sign("||"), sign("||"))
	mustCut(t, "(),.=+-*/;", sign("("), sign(")"), sign(","), sign("."), sign("="), sign("+"), sign("-"), sign("*"), sign("/"), sign(";"))
	mustCut(t, "a'b'c", name("a"), quote("b"), name("c"))
	mustCut(t, "'a''b'", quote("a'b"))
	mustCut(t, "'a' 'b'", quote("a"), quote("b"))
	mustCut(t, "'''' ''", quote("'"), quote(""))
	mustCut(t, "'a'--'b'", quote("a"))
	mustCut(t, "'a--b'", quote("a--b"))
	mustCut(t, "'it''s' NULL #3ff0000000000000", quote("it's"), word("NULL"), hex(0x3ff0000000000000))
	mustCut(t, "#00000000000000001", hex(0), number(1))
	mustCut(t, "#0000000000000000a", hex(0), name("a"))
	mustCut(t, "#0000000000000000#0000000000000001''", hex(0), hex(1), quote(""))
}

// wrongWritings: texts that begin as a token does, and are none.
func wrongWritings() map[api.Errno][]string {
	x := sample.Long
	return map[api.Errno][]string{
		api.ErrSize: {
			x(api.MaxName + 1), "a" + strings.Repeat("_", api.MaxName), "abcd12345", x(200), "COALESCED", "COALESCEDx", strings.Repeat("Z", 100),
			"'" + x(api.MaxText+1) + "'", "'" + x(api.MaxText) + "'''", strings.Repeat("'", 2*api.MaxText+4), "'" + strings.Repeat("\u00e9", api.MaxText/2) + "x'",
			"'" + x(api.MaxText) + "\xff'", "'\xff" + x(100) + "'",
		},
		api.ErrRange: {
			"9223372036854775808", "9223372036854775810", "9300000000000000000", "10000000000000000000", "18446744073709551615", "18446744073709551616", "18446744073709551623",
			strings.Repeat("9", 100), "1" + strings.Repeat("0", 100), "9223372036854775808a",
		},
		api.ErrShort: {
			"'", "'a", "'''", "'a''", "'''''", "'\n", "'''a", "'''a''", "'--\n", "'" + x(api.MaxText+1), "'" + x(100) + "''", "'\xff", "'\xff''", "'\xc3''a", "'" + x(api.MaxText) + "\xff",
			"#", "#1", "#12", "#abcdef", "#7ff800000000000", "#800000000000000", "#000000000000000",
		},
		api.ErrForm: {
			"00", "01", "007", "00a", strings.Repeat("0", 30), "0" + strings.Repeat("9", 30), "09223372036854775807", "09223372036854775808",
			"'\xff'", "'\xc3'", "'\xc3'''", "'\xc3''\xa9'", "'a\x80'", "'\xc0\x80'", "'\xed\xa0\x80'", "'\xf4\x90\x80\x80'", "'" + x(api.MaxText-1) + "\xc3'",
			"#g", "# ", "##", "#'", "#\n0000000000000000", "#000000000000000g", "#000000000000000 ", "#00000000000000--", "#/", "#:", "#`", "#@", "#\xff", "#\x00",
			"#A000000000000000", "#3FF0000000000000", "#000000000000000F", "#0x00000000000000", "#000000_000000000", "#-000000000000001", "#+000000000000001",
			"#8000000000000000", "#7ff8000000000000", "#7ff0000000000001", "#fff0000000000001", "#ffffffffffffffff", "#7ff80000000000000",
			"|", "|a", "| |", "|'", "_", "_a", "?", "!=", "\"a\"", "[", "{", "@", "`", ":", "%", "&", "\\", "$", "^", "~",
			"\r", "\r\n", "\v", "\f", "\x00", "\x7f", "\x80", "\xff", "\xa0", "\u00a0", "\u00e9", "\ufeff", "\u2028", "\u0660", "\u2264",
		},
	}
}

// TestCutRefuses: P7.3, each error of a token, and which one stands first; with the place of its first byte.
func TestCutRefuses(t *testing.T) {
	for want, texts := range wrongWritings() {
		for _, text := range texts {
			for _, ahead := range []string{"", " ", "\n\t", "-- x\n", "--'\n", "a ", "NULL\n", "7 ", "'it''s' ", "'\u00e9' ", "#0000000000000000 ", "<= "} {
				mustRefuse(t, ahead+text, len(ahead), want)
			}
		}
	}
}

// TestFirstFault: P7.3, what is wrong ahead of all else that is wrong.
func TestFirstFault(t *testing.T) {
	for first, want := range map[string]api.Errno{"?": api.ErrForm, "00 ": api.ErrForm, "9223372036854775808 ": api.ErrRange, "abcdefghi ": api.ErrSize, "'\xff' ": api.ErrForm, "#8000000000000000 ": api.ErrForm} {
		for _, texts := range wrongWritings() {
			for _, text := range texts {
				mustRefuse(t, first+text, 0, want)
				mustRefuse(t, " a "+first+text, 3, want)
			}
		}
	}
}

// TestPlaceBehindTokens: P7.3, the place of a token that begins just where the one ahead of it ends.
func TestPlaceBehindTokens(t *testing.T) {
	mustRefuse(t, "a?", 1, api.ErrForm)
	mustRefuse(t, "A_", 1, api.ErrForm)
	mustRefuse(t, "A00", 1, api.ErrForm)
	mustRefuse(t, "1_0", 1, api.ErrForm)
	mustRefuse(t, "Aabcdefghi", 1, api.ErrSize)
	mustRefuse(t, "aABCDEFGHI", 1, api.ErrSize)
	mustRefuse(t, "a9223372036854775808", 0, api.ErrSize)
	mustRefuse(t, "A9223372036854775808", 1, api.ErrRange)
	mustRefuse(t, "7'a", 1, api.ErrShort)
	mustRefuse(t, "'a'b'", 4, api.ErrShort)
	mustRefuse(t, "a''b'", 4, api.ErrShort)
	mustRefuse(t, "'a''b''c'd'", 10, api.ErrShort)
	mustRefuse(t, "|||", 2, api.ErrForm)
	mustRefuse(t, "<=!", 2, api.ErrForm)
	mustRefuse(t, "#000000000000000000", 17, api.ErrForm)
	mustRefuse(t, "#0000000000000000#", 17, api.ErrShort)
}

// TestMaxSource: P7.3, of more bytes none is looked at.
func TestMaxSource(t *testing.T) {
	blanks := strings.Repeat(" ", api.MaxSource)
	mustCut(t, blanks[1:]+"a", sample.Name("a"))
	mustCut(t, "a"+blanks[1:], sample.Name("a"))
	mustRefuse(t, blanks[1:]+"?", api.MaxSource-1, api.ErrForm)
	for _, text := range []string{blanks + " ", blanks + "a", "a" + blanks, "?" + blanks, "'" + blanks, "00" + blanks, "--" + blanks, strings.Repeat(",", api.MaxSource+1), strings.Repeat("\xff", 10000)} {
		mustRefuse(t, text, 0, api.ErrSize)
	}
}

// TestMaxTokens: P7.3, one token more is refused where it begins, whatever it is; what is none may stand there.
func TestMaxTokens(t *testing.T) {
	want := slices.Repeat([]api.Token{sample.Sign(",")}, api.MaxTokens)
	commas := strings.Repeat(",", api.MaxTokens)
	for _, all := range []string{commas, strings.Repeat(", ", api.MaxTokens)} {
		for _, gap := range append(gaps(), "") {
			mustCut(t, all+gap, want...)
			mustCut(t, all+gap+"--,", want...)
			for _, more := range []string{",", ",,", "a", "7", "''", "?", "00", "'", "#", "|", "9223372036854775808", "'\xff'"} {
				if len(all+gap+more) <= api.MaxSource {
					mustRefuse(t, all+gap+more, len(all+gap), api.ErrSize)
				}
			}
		}
	}
	mustRefuse(t, commas[1:]+"?,", api.MaxTokens-1, api.ErrForm)
	mustRefuse(t, strings.Repeat(",", api.MaxSource), api.MaxTokens, api.ErrSize)
}

// The forms of P7.1 and P7.3, each as it begins a text; of a quote with what must not stand behind it.
var (
	gapForm    = regexp.MustCompile(`\A(?:[ \t\n]|--[^\n]*)*`)
	nameForm   = regexp.MustCompile(`\A[a-z][a-z0-9_]*`)
	wordForm   = regexp.MustCompile(`\A[A-Z]+`)
	numberForm = regexp.MustCompile(`\A[0-9]+`)
	quoteForm  = regexp.MustCompile(`\A'((?:[^']|'')*)'(?:[^']|\z)`)
	realForm   = regexp.MustCompile(`\A#[0-9a-f]{16}`)
	shortForm  = regexp.MustCompile(`\A#[0-9a-f]{0,15}\z`)
	signForm   = regexp.MustCompile(`\A(?:<=|>=|<>|\|\||[(),.=<>+*/;-])`)
)

// byForms tells the first token of a text and how many bytes it has there, or why not.
func byForms(text string) (t api.Token, n int, e api.Errno) {
	switch {
	case nameForm.MatchString(text):
		s := nameForm.FindString(text)
		return sample.Name(s), len(s), sized(s, api.MaxName)
	case wordForm.MatchString(text):
		s := wordForm.FindString(text)
		return sample.Word(s), len(s), sized(s, api.MaxName)
	case numberForm.MatchString(text):
		return numberByForms(numberForm.FindString(text))
	case text[0] == '\'':
		return quoteByForms(text)
	case text[0] == '#':
		return realByForms(text)
	case signForm.MatchString(text):
		s := signForm.FindString(text)
		return sample.Sign(s), len(s), api.OK
	}
	return t, 0, api.ErrForm
}

func sized(s string, most int) api.Errno {
	if len(s) > most {
		return api.ErrSize
	}
	return api.OK
}

func numberByForms(s string) (t api.Token, n int, e api.Errno) {
	i, _ := new(big.Int).SetString(s, 10)
	if i.String() != s {
		return t, 0, api.ErrForm
	}
	if !i.IsInt64() {
		return t, 0, api.ErrRange
	}
	return sample.Number(int(i.Int64())), len(s), api.OK
}

func quoteByForms(text string) (t api.Token, n int, e api.Errno) {
	found := quoteForm.FindStringSubmatch(text)
	if found == nil {
		return t, 0, api.ErrShort
	}
	said := strings.Join(strings.Split(found[1], "''"), "'")
	e = sized(said, api.MaxText)
	if e == api.OK && !utf8.ValidString(said) {
		e = api.ErrForm
	}
	return sample.Quote(said), len(found[1]) + 2, e
}

func realByForms(text string) (t api.Token, n int, e api.Errno) {
	s := realForm.FindString(text)
	if s == "" {
		if shortForm.MatchString(text) {
			return t, 0, api.ErrShort
		}
		return t, 0, api.ErrForm
	}
	bits, _ := strconv.ParseUint(s[1:], 16, 64)
	if bits == 1<<63 || math.IsNaN(math.Float64frombits(bits)) {
		return t, 0, api.ErrForm
	}
	return sample.Hex(bits), len(s), api.OK
}

// cutByForms says what P7.3 does, in another way.
func cutByForms(text string) ([]api.Token, int, api.Errno) {
	if len(text) > api.MaxSource {
		return nil, 0, api.ErrSize
	}
	var l []api.Token
	for at := 0; ; {
		at += len(gapForm.FindString(text[at:]))
		if at == len(text) {
			return l, 0, api.OK
		}
		if len(l) == api.MaxTokens {
			return nil, at, api.ErrSize
		}
		t, n, e := byForms(text[at:])
		if e != api.OK {
			return nil, at, e
		}
		l = append(l, t)
		at += n
	}
}

// mustCutByForms: the text is cut, or refused, as it is by the forms; what was cut is shown and cut again.
func mustCutByForms(t *testing.T, text string) {
	t.Helper()
	l, at, e := Cut(text)
	want, place, why := cutByForms(text)
	if !slices.Equal(l, want) || at != place || e != why {
		t.Fatalf("Cut(%q) = %+v %d %d, want %+v %d %d", text, l, at, e, want, place, why)
	}
	if e != api.OK {
		return
	}
	again, e := Show(l)
	if e == api.ErrSize && showBytes(l) > api.MaxSource {
		return
	}
	if e != api.OK {
		t.Fatalf("Show(%+v) = %q %d, of %q", l, again, e, text)
	}
	mustCut(t, again, l...)
}

// showBytes is how many bytes tokens have when they are shown.
func showBytes(l []api.Token) int {
	n := max(len(l)-1, 0)
	for _, t := range l {
		switch t.Kind {
		case api.Number:
			n += len(strconv.Itoa(t.Int))
		case api.Quote:
			n += 2 + len(t.Text) + strings.Count(t.Text, "'")
		case api.Hex:
			n += 17
		default:
			n += len(t.Text)
		}
	}
	return n
}

// TestAllShortTexts: P7.3, all texts of up to four pieces, some of them bytes of each sort.
func TestAllShortTexts(t *testing.T) {
	pieces := []string{"a", "_", "A", "0", "7", "'", "#", "(", "<", ">", "=", "-", "|", "?", " ", "\n", "\r", "\xc3", "\xa9"}
	texts := []string{""}
	for from := 0; len(texts[from]) < 4; from++ {
		for _, p := range pieces {
			texts = append(texts, texts[from]+p)
		}
	}
	for _, text := range texts {
		mustCutByForms(t, text)
	}
}

// TestManyTexts: P7.3, long texts of all sorts of pieces.
func TestManyTexts(t *testing.T) {
	pieces := append(gaps(), "a", "_", "A", "0", "9", "'", "''", "#", "f", "F", "8000000000000000", "?", "|", "-", "--", "\xc3", "\xa9", "\xff", "922337203685477580")
	for _, w := range writings() {
		pieces = append(pieces, w.text, w.text, " "+w.text, w.text+"\n")
	}
	chance := rand.New(rand.NewSource(7))
	for range 60000 {
		var text strings.Builder
		for range chance.Intn(12) {
			text.WriteString(pieces[chance.Intn(len(pieces))])
		}
		mustCutByForms(t, text.String())
	}
}

// TestShow: P7.4, tokens as they are written, with one blank between two.
func TestShow(t *testing.T) {
	l := writings()
	for i, a := range l {
		mustShow(t, a.text, a.t)
		for _, b := range l {
			mustShow(t, a.text+" "+b.text, a.t, b.t)
			mustCut(t, a.text+" "+b.text, a.t, b.t)
		}
		b, c := l[(i+1)%len(l)], l[(i+2)%len(l)]
		mustShow(t, a.text+" "+b.text+" "+c.text, a.t, b.t, c.t)
	}
	mustShow(t, "")
}

// mustShow tokens as just this text.
func mustShow(t *testing.T, want string, l ...api.Token) {
	t.Helper()
	if text, e := Show(l); text != want || e != api.OK {
		t.Errorf("Show(%+v) = %q %d, want %q 0", l, text, e, want)
	}
}

func mustNotShow(t *testing.T, want api.Errno, l ...api.Token) {
	t.Helper()
	if text, e := Show(l); text != "" || e != want {
		t.Errorf("Show(%+v) = %q %d, want none %d", l, text, e, want)
	}
}

// TestShowRefuses: P7.4, what Check refuses, token by token.
func TestShowRefuses(t *testing.T) {
	good := sample.Name("a")
	all := refusedTokens()
	for i, r := range all {
		other := all[(i*7+5)%len(all)]
		mustNotShow(t, r.want, r.t)
		mustNotShow(t, r.want, good, r.t)
		mustNotShow(t, r.want, r.t, good)
		mustNotShow(t, r.want, r.t, other.t)
		mustNotShow(t, r.want, good, good, r.t, good, other.t)
	}
}

// TestShowSizes: P7.4, too many tokens are refused ahead of what they are, too many bytes behind it.
func TestShowSizes(t *testing.T) {
	many := slices.Repeat([]api.Token{sample.Sign(";")}, api.MaxTokens)
	mustShow(t, strings.Repeat("; ", api.MaxTokens-1)+";", many...)
	for _, more := range []api.Token{sample.Sign(";"), {}, sample.Name("A"), sample.Number(-1)} {
		mustNotShow(t, api.ErrSize, append(slices.Clone(many), more)...)
		mustNotShow(t, api.ErrSize, append([]api.Token{more}, many...)...)
	}
	mustNotShow(t, api.ErrSize, make([]api.Token, 100000)...)

	full := slices.Repeat([]api.Token{sample.Quote(sample.Long(api.MaxText))}, 7) // 7 times 42 bytes, and 6 blanks
	mustShow(t, strings.TrimSpace(strings.Repeat("'"+sample.Long(api.MaxText)+"' ", 7)), full...)
	over := slices.Clone(full)
	over[3].Text = "'" + over[3].Text[1:]
	mustNotShow(t, api.ErrSize, over...)
	mustNotShow(t, api.ErrSize, append(slices.Clone(full), sample.Sign(";"))...)
	mustNotShow(t, api.ErrForm, append(slices.Clone(over), sample.Number(-1))...)
	mustNotShow(t, api.ErrKind, append(slices.Clone(over), api.Token{})...)
	mustNotShow(t, api.ErrSize, slices.Repeat([]api.Token{sample.Hex(1)}, api.MaxTokens)...)
}

// TestCutAsShown: what comes of it, of many lists of tokens.
func TestCutAsShown(t *testing.T) {
	all := writings()
	chance := rand.New(rand.NewSource(4))
	for range 20000 {
		var l []api.Token
		for range chance.Intn(20) {
			l = append(l, all[chance.Intn(len(all))].t)
		}
		if showBytes(l) > api.MaxSource {
			mustNotShow(t, api.ErrSize, l...)
			continue
		}
		text, e := Show(l)
		if len(text) != showBytes(l) || e != api.OK {
			t.Fatalf("Show(%+v) = %q %d", l, text, e)
		}
		mustCut(t, text, l...)
	}
}

// TestListsStayApart: what is handed in stays as it is, and answers share no memory, spare room neither.
func TestListsStayApart(t *testing.T) {
	const text = "SELECT a FROM 0.t WHERE b<='it''s' -- x"
	one, _, _ := Cut(text)
	two, _, _ := Cut(text)
	kept := slices.Clone(two)
	for i := range one[:cap(one)] {
		one[:cap(one)][i] = sample.Word("SPOILT")
	}
	if !slices.Equal(two, kept) { // asked ahead of the next Cut, which would mend it
		t.Errorf("answers of Cut share their tokens: %+v", two)
	}
	mustCut(t, text, kept...)
	room := append(slices.Clone(kept), sample.Quote("'"), sample.Name("a"))
	before := slices.Clone(room)
	if _, e := Show(room[:len(kept)]); e != api.OK || !slices.Equal(room, before) {
		t.Errorf("Show changed its tokens: %+v %d", room, e)
	}
}

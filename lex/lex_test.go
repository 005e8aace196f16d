package lex_test

import (
	"math/big"
	"regexp"
	"slices"
	"strings"
	"testing"

	"sluicebook/api"
	"sluicebook/lex"
	"sluicebook/val"
)

func word(text string, at int) api.Token   { return api.Token{Kind: api.Word, Text: text, At: at} }
func number(text string, at int) api.Token { return api.Token{Kind: api.Number, Text: text, At: at} }
func quote(text string, at int) api.Token  { return api.Token{Kind: api.Quote, Text: text, At: at} }
func sign(text string, at int) api.Token   { return api.Token{Kind: api.Sign, Text: text, At: at} }

// long is a text of so many bytes.
func long(n int) string { return strings.Repeat("z", n) }

// allSigns are in the order of the chapter.
var allSigns = []string{"(", ")", ",", "+", "-", "*", "/", "%", "=", "<>", "<=", ">=", "<", ">"}

const (
	greatest = "9223372036854775807"
	above    = "9223372036854775808"
)

// cut are texts and their tokens.
var cut = []struct {
	text string
	want []api.Token
}{
	{"", nil},
	{" ", nil},
	{"\n", nil},
	{" \n\n  \n", nil},

	{"a", []api.Token{word("a", 0)}},
	{"z", []api.Token{word("z", 0)}},
	{"az09", []api.Token{word("az09", 0)}},
	{"a1b2c3", []api.Token{word("a1b2c3", 0)}},
	{"select", []api.Token{word("select", 0)}},
	{"x0007", []api.Token{word("x0007", 0)}},
	{"a" + above, []api.Token{word("a"+above, 0)}},
	{long(400), []api.Token{word(long(400), 0)}},

	{"0", []api.Token{number("0", 0)}},
	{"9", []api.Token{number("9", 0)}},
	{"10", []api.Token{number("10", 0)}},
	{"100", []api.Token{number("100", 0)}},
	{"1002003", []api.Token{number("1002003", 0)}},
	{"0 0", []api.Token{number("0", 0), number("0", 2)}},
	{"0 1", []api.Token{number("0", 0), number("1", 2)}},
	{"5 a", []api.Token{number("5", 0), word("a", 2)}},
	{"5\na", []api.Token{number("5", 0), word("a", 2)}},
	{greatest, []api.Token{number(greatest, 0)}},
	{"-" + above[:18], []api.Token{sign("-", 0), number(above[:18], 1)}},

	{"''", []api.Token{quote("''", 0)}},
	{"'a'", []api.Token{quote("'a'", 0)}},
	{"' '", []api.Token{quote("' '", 0)}},
	{"'~'", []api.Token{quote("'~'", 0)}},
	{"''''", []api.Token{quote("''''", 0)}},
	{"''''''", []api.Token{quote("''''''", 0)}},
	{"'it''s'", []api.Token{quote("'it''s'", 0)}},
	{"'''a'", []api.Token{quote("'''a'", 0)}},
	{"'a'''", []api.Token{quote("'a'''", 0)}},
	{"'a''b'", []api.Token{quote("'a''b'", 0)}},
	{"'a' 'b'", []api.Token{quote("'a'", 0), quote("'b'", 4)}},
	{"'a'\n'b'", []api.Token{quote("'a'", 0), quote("'b'", 4)}},
	{"'' ''", []api.Token{quote("''", 0), quote("''", 3)}},
	{"'<= 007x A'", []api.Token{quote("'<= 007x A'", 0)}},
	{`'"\n'`, []api.Token{quote(`'"\n'`, 0)}},
	{"'" + long(40) + "'", []api.Token{quote("'"+long(40)+"'", 0)}},
	{"'" + long(39) + "'''", []api.Token{quote("'"+long(39)+"'''", 0)}},
	{strings.Repeat("'", 82), []api.Token{quote(strings.Repeat("'", 82), 0)}},

	{"<>", []api.Token{sign("<>", 0)}},
	{"< >", []api.Token{sign("<", 0), sign(">", 2)}},
	{"<\n=", []api.Token{sign("<", 0), sign("=", 2)}},
	{"<=>", []api.Token{sign("<=", 0), sign(">", 2)}},
	{"<>=", []api.Token{sign("<>", 0), sign("=", 2)}},
	{"<<=", []api.Token{sign("<", 0), sign("<=", 1)}},
	{">>=", []api.Token{sign(">", 0), sign(">=", 1)}},
	{"><", []api.Token{sign(">", 0), sign("<", 1)}},
	{"=<", []api.Token{sign("=", 0), sign("<", 1)}},
	{"=>=", []api.Token{sign("=", 0), sign(">=", 1)}},
	{"==", []api.Token{sign("=", 0), sign("=", 1)}},
	{"--", []api.Token{sign("-", 0), sign("-", 1)}},

	{"a+b", []api.Token{word("a", 0), sign("+", 1), word("b", 2)}},
	{"len(a)", []api.Token{word("len", 0), sign("(", 3), word("a", 4), sign(")", 5)}},
	{"1-2", []api.Token{number("1", 0), sign("-", 1), number("2", 2)}},
	{"0-0", []api.Token{number("0", 0), sign("-", 1), number("0", 2)}},
	{"a'b'c", []api.Token{word("a", 0), quote("'b'", 1), word("c", 4)}},
	{"1'b'2", []api.Token{number("1", 0), quote("'b'", 1), number("2", 4)}},
	{"'b'a1", []api.Token{quote("'b'", 0), word("a1", 3)}},
	{"'a'<='b'", []api.Token{quote("'a'", 0), sign("<=", 3), quote("'b'", 5)}},
	{" \n a \n\n 1  '' \n= ", []api.Token{word("a", 3), number("1", 8), quote("''", 11), sign("=", 15)}},
	{"select a as b\nfrom t where a<>'x'", []api.Token{
		word("select", 0), word("a", 7), word("as", 9), word("b", 12), word("from", 14), word("t", 19), word("where", 21), word("a", 27), sign("<>", 28), quote("'x'", 30),
	}},
}

// TestTokens is of X1: each kind of token, with blanks and without, as it stands and where it begins.
func TestTokens(t *testing.T) {
	for _, c := range cut {
		if l, f := lex.Tokens(c.text); !slices.Equal(l, c.want) || f != (api.Fault{}) {
			t.Errorf("Tokens(%.100q): %v, %v, want %v", c.text, l, f, c.want)
		}
	}
}

// TestSigns is of X1: every sign, and the longer one where two stand together.
func TestSigns(t *testing.T) {
	for _, a := range allSigns {
		if l, f := lex.Tokens(a); !slices.Equal(l, []api.Token{sign(a, 0)}) || f != (api.Fault{}) {
			t.Errorf("Tokens(%q): %v, %v", a, l, f)
		}
		for _, b := range allSigns {
			want := []api.Token{sign(a, 0), sign(b, len(a))}
			if len(a) == 1 && slices.Contains(allSigns, a+b[:1]) {
				want = []api.Token{sign(a+b[:1], 0)}
				if len(b) == 2 {
					want = append(want, sign(b[1:], 2))
				}
			}
			if l, f := lex.Tokens(a + b); !slices.Equal(l, want) || f != (api.Fault{}) {
				t.Errorf("Tokens(%q): %v, %v, want %v", a+b, l, f, want)
			}
			apart := []api.Token{sign(a, 0), sign(b, len(a)+1)}
			if l, f := lex.Tokens(a + " " + b); !slices.Equal(l, apart) || f != (api.Fault{}) {
				t.Errorf("Tokens(%q): %v, %v, want %v", a+" "+b, l, f, apart)
			}
		}
	}
}

// faulty are texts and the first thing that is wrong with them.
var faulty = []struct {
	text string
	how  api.Errno
	at   int
}{
	{"A", api.ErrSyntax, 0},
	{"\t", api.ErrSyntax, 0},
	{"\r", api.ErrSyntax, 0},
	{" \t", api.ErrSyntax, 1},
	{"a\tb", api.ErrSyntax, 1},
	{"a\r\nb", api.ErrSyntax, 1},
	{"a ?", api.ErrSyntax, 2},
	{"a;", api.ErrSyntax, 1},
	{"aB", api.ErrSyntax, 1},
	{"a_b", api.ErrSyntax, 1},
	{"_a", api.ErrSyntax, 0},
	{"a.b", api.ErrSyntax, 1},
	{"a != b", api.ErrSyntax, 2},
	{"<!", api.ErrSyntax, 1},
	{`"a"`, api.ErrSyntax, 0},
	{"a\x00", api.ErrSyntax, 1},
	{"\u00e9", api.ErrSyntax, 0},
	{"a\u00e9", api.ErrSyntax, 1},
	{"1\u0661", api.ErrSyntax, 1},
	{"a\u00a0b", api.ErrSyntax, 1},

	{"1a", api.ErrSyntax, 0},
	{"0a", api.ErrSyntax, 0},
	{"12z", api.ErrSyntax, 0},
	{"1e3", api.ErrSyntax, 0},
	{"0x1", api.ErrSyntax, 0},
	{"a 1b", api.ErrSyntax, 2},
	{"a+1b", api.ErrSyntax, 2},
	{"1A", api.ErrSyntax, 1},
	{"1.5", api.ErrSyntax, 1},
	{"1_000", api.ErrSyntax, 1},
	{"00", api.ErrSyntax, 0},
	{"01", api.ErrSyntax, 0},
	{"007", api.ErrSyntax, 0},
	{"0" + greatest, api.ErrSyntax, 0},
	{"-01", api.ErrSyntax, 1},
	{"1 01", api.ErrSyntax, 2},
	{above, api.ErrRange, 0},
	{"-" + above, api.ErrRange, 1},
	{"a " + above, api.ErrRange, 2},
	{above + " ", api.ErrRange, 0},
	{above + "''", api.ErrRange, 0},
	{"9999999999999999999", api.ErrRange, 0},
	{"18446744073709551615", api.ErrRange, 0},
	{"18446744073709551616", api.ErrRange, 0},
	{"18446744073709551617", api.ErrRange, 0},
	{"10000000000000000000", api.ErrRange, 0},
	{strings.Repeat("9", 400), api.ErrRange, 0},

	{"'", api.ErrSyntax, 0},
	{"'a", api.ErrSyntax, 0},
	{"'''", api.ErrSyntax, 0},
	{"'a''", api.ErrSyntax, 0},
	{"'a''b", api.ErrSyntax, 0},
	{"a'", api.ErrSyntax, 1},
	{"a 'b", api.ErrSyntax, 2},
	{"'a' 'b", api.ErrSyntax, 4},
	{"'a' '", api.ErrSyntax, 4},
	{"'a\nb'", api.ErrSyntax, 0},
	{"'\x1f'", api.ErrSyntax, 0},
	{"'\x7f'", api.ErrSyntax, 0},
	{"'\x80'", api.ErrSyntax, 0},
	{"'\u00e9'", api.ErrSyntax, 0},
	{"a 'b\tc' d", api.ErrSyntax, 2},
	{"'" + long(41) + "'", api.ErrFull, 0},
	{"a '" + long(41) + "'", api.ErrFull, 2},
	{"'" + long(398) + "'", api.ErrFull, 0},
	{"'" + long(40) + "'''", api.ErrFull, 0},
	{"'" + long(20) + "''" + long(20) + "'", api.ErrFull, 0},
	{"'" + strings.Repeat(" ", 41) + "'", api.ErrFull, 0},
	{strings.Repeat("'", 84), api.ErrFull, 0},

	{above + "a", api.ErrSyntax, 0},
	{"0" + above, api.ErrSyntax, 0},
	{"00a", api.ErrSyntax, 0},
	{"0" + above + "a", api.ErrSyntax, 0},
	{above + "A", api.ErrRange, 0},
	{"'" + long(41), api.ErrSyntax, 0},
	{"'" + long(41) + "''", api.ErrSyntax, 0},
	{"'" + long(41) + "\n'", api.ErrSyntax, 0},
	{"'\x7f" + long(41) + "'", api.ErrSyntax, 0},
	{strings.Repeat("'", 83), api.ErrSyntax, 0},
	{strings.Repeat("'", 85), api.ErrSyntax, 0},
	{"'" + long(41) + "\n", api.ErrSyntax, 0},

	{"? " + above, api.ErrSyntax, 0},
	{above + " ?", api.ErrRange, 0},
	{above + " '" + long(41) + "' 'a", api.ErrRange, 0},
	{"'" + long(41) + "' " + above + " 01", api.ErrFull, 0},
	{"'" + long(41) + "'?", api.ErrFull, 0},
	{"'" + long(41) + "' '", api.ErrFull, 0},
	{"01 '" + long(41) + "'", api.ErrSyntax, 0},
	{"a 1b " + above, api.ErrSyntax, 2},
	{"a " + above + " 1b", api.ErrRange, 2},
	{"a 'b\n' c 1d", api.ErrSyntax, 2},

	{long(401), api.ErrFull, 0},
	{long(100_000), api.ErrFull, 0},
	{strings.Repeat(" ", 401), api.ErrFull, 0},
	{long(400) + "\n", api.ErrFull, 0},
	{strings.Repeat("?", 401), api.ErrFull, 0},
	{"?" + long(400), api.ErrFull, 0},
	{long(400) + "?", api.ErrFull, 0},
	{"a 1b" + strings.Repeat(" ", 400), api.ErrFull, 0},
	{strings.Repeat("9", 401), api.ErrFull, 0},
	{strings.Repeat("'", 401), api.ErrFull, 0},
	{"  '" + long(400), api.ErrFull, 0},
	{strings.Repeat("\xff", 1_000), api.ErrFull, 0},
	{strings.Repeat(" ", 399) + "?", api.ErrSyntax, 399},
	{strings.Repeat("?", 400), api.ErrSyntax, 0},
	{long(399) + "'", api.ErrSyntax, 399},
}

// TestFaults is of X1, P1 and P3: each fault, where it is, the first of several, and no tokens beside.
func TestFaults(t *testing.T) {
	for _, c := range faulty {
		if l, f := lex.Tokens(c.text); len(l) != 0 || f != (api.Fault{How: c.how, At: c.at}) {
			t.Errorf("Tokens(%.100q): %v, %v, want %v at %d", c.text, l, f, c.how, c.at)
		}
	}
}

// TestLongest is of X1: texts of MaxQuery bytes, which are not too long, and the same with a byte more.
func TestLongest(t *testing.T) {
	for _, c := range []struct {
		piece string
		count int
	}{
		{" ", 0}, {"\n", 0}, {"z", 1}, {"(", 400}, {"1 ", 200}, {"<=", 200}, {"'a'<", 200}, {"'' a ", 160},
	} {
		text := strings.Repeat(c.piece, api.MaxQuery/len(c.piece))
		if l, f := lex.Tokens(text); len(l) != c.count || f != (api.Fault{}) {
			t.Errorf("Tokens of 400 bytes of %q: %d tokens, %v, want %d", c.piece, len(l), f, c.count)
		}
		if l, f := lex.Tokens(text + " "); len(l) != 0 || f != (api.Fault{How: api.ErrFull}) {
			t.Errorf("Tokens of 401 bytes of %q: %d tokens, %v, want ErrFull at 0", c.piece, len(l), f)
		}
	}
}

// TestEveryByte is of X1: every byte where a token may begin, behind a Word, a Number and a Quote, and in a Quote.
func TestEveryByte(t *testing.T) {
	for b := range 256 {
		s := string([]byte{byte(b)})
		for _, ahead := range []string{"", " ", "\n", "(", "= ", "a ", "1 ", "'' ", "''", "a", "1", "0", "<", ">"} {
			for _, behind := range []string{"", " ", "'", "0", "1", "z", "=", ">", s} {
				hold(t, ahead+s+behind)
			}
		}
		for _, at := range []int{0, 1, 39} {
			between := long(at) + s + long(39-at)
			hold(t, "'"+between+"'")
			hold(t, "'"+between+"z'")
			hold(t, "'"+between)
		}
		first := api.Fault{How: api.ErrSyntax}
		if strings.ContainsRune(" \nabcdefghijklmnopqrstuvwxyz0123456789(),+-*/%=<>", rune(b)) {
			first = api.Fault{}
		}
		if _, f := lex.Tokens(s); f != first {
			t.Errorf("Tokens of byte %d: %v, want %v", b, f, first)
		}
	}
}

// TestShort is of X1: all short texts of some bytes.
func TestShort(t *testing.T) {
	for _, signs := range []string{"a0'< \n", "<>=1A", "'z\x7f\n", "019a?"} {
		for _, text := range shortTexts(signs, 6) {
			hold(t, text)
		}
	}
}

// TestPieces is of X1: pieces that are tokens, blanks or have a fault, side by side in all ways.
func TestPieces(t *testing.T) {
	pieces := []string{
		" ", "\n", "a", "x9", "0", "7", "007", greatest, above, "12b", "''", "'it''s'", "'" + long(40) + "'", "'" + long(41) + "'", "'\n'", "'",
		"(", "<", ">", "=", "<>", "<=", "-", "?", "B", "\xff", strings.Repeat(" ", 390),
	}
	for _, a := range pieces {
		for _, b := range pieces {
			for _, c := range pieces {
				for _, d := range []string{"", "'", "1", " z"} {
					hold(t, a+b+c+d)
				}
			}
		}
	}
}

// hold holds what Tokens answers against what plainTokens does, and joins the tokens.
func hold(t *testing.T, text string) {
	t.Helper()
	l, f := lex.Tokens(text)
	want, fault := plainTokens(text)
	if !slices.Equal(l, want) || f != fault {
		t.Errorf("Tokens(%.100q): %v, %v, want %v, %v", text, l, f, want, fault)
	}
	holdJoined(t, l)
}

// holdJoined is of X2: what Join gives has the same tokens, if it is not too long.
func holdJoined(t *testing.T, l []api.Token) {
	t.Helper()
	text := lex.Join(l)
	again, f := lex.Tokens(text)
	if len(text) > api.MaxQuery {
		if len(again) != 0 || f != (api.Fault{How: api.ErrFull}) {
			t.Errorf("Tokens(Join(%v)): %v, %v, want ErrFull at 0", l, again, f)
		}
		return
	}
	if !slices.Equal(withoutAt(again), withoutAt(l)) || f != (api.Fault{}) {
		t.Errorf("Tokens(%q): %v, %v, which was joined of %v", text, again, f, l)
	}
}

func withoutAt(l []api.Token) []api.Token {
	l = slices.Clone(l)
	for i := range l {
		l[i].At = 0
	}
	return l
}

// The forms of what stands ahead in a text. A Quote is taken without its last quote, so that one that does not end is taken too.
var (
	blankForm  = regexp.MustCompile(`^[ \n]+`)
	wordForm   = regexp.MustCompile(`^[a-z][a-z0-9]*`)
	numberForm = regexp.MustCompile(`^[0-9]+`)
	quoteForm  = regexp.MustCompile(`^'(?:[^']|'')*`)
	signForm   = regexp.MustCompile(`^(?:<>|<=|>=|[(),+*/%=<>-])`)
)

// plainTokens tells in another way than Tokens, by forms, what it should answer.
func plainTokens(text string) ([]api.Token, api.Fault) {
	if len(text) > 400 {
		return nil, api.Fault{How: api.ErrFull}
	}
	var l []api.Token
	for at := 0; at < len(text); {
		rest := text[at:]
		if blanks := blankForm.FindString(rest); blanks != "" {
			at += len(blanks)
			continue
		}
		kind, s, how := plainToken(rest)
		if how != api.OK {
			return nil, api.Fault{How: how, At: at}
		}
		l = append(l, api.Token{Kind: kind, Text: s, At: at})
		at += len(s)
	}
	return l, api.Fault{}
}

func plainToken(rest string) (int, string, api.Errno) {
	if s := wordForm.FindString(rest); s != "" {
		return api.Word, s, api.OK
	}
	if s := numberForm.FindString(rest); s != "" {
		return api.Number, s, plainNumber(s, rest[len(s):])
	}
	if s := quoteForm.FindString(rest); s != "" {
		return api.Quote, s + "'", plainQuote(s[1:], rest[len(s):])
	}
	if s := signForm.FindString(rest); s != "" {
		return api.Sign, s, api.OK
	}
	return 0, "", api.ErrSyntax
}

func plainNumber(digits, behind string) api.Errno {
	n, _ := new(big.Int).SetString(digits, 10)
	switch {
	case n.String() != digits || regexp.MustCompile(`^[a-z]`).MatchString(behind):
		return api.ErrSyntax
	case !n.IsInt64():
		return api.ErrRange
	}
	return api.OK
}

func plainQuote(between, behind string) api.Errno {
	s := strings.ReplaceAll(between, "''", "'")
	switch {
	case behind == "" || regexp.MustCompile(`[^ -~]`).MatchString(s):
		return api.ErrSyntax
	case len(s) > 40:
		return api.ErrFull
	}
	return api.OK
}

// shortTexts are all texts of at most n of the signs.
func shortTexts(signs string, n int) []string {
	all, last := []string{""}, []string{""}
	for range n {
		var next []string
		for _, s := range last {
			for i := range len(signs) {
				next = append(next, s+signs[i:i+1])
			}
		}
		all, last = append(all, next...), next
	}
	return all
}

// TestQuotesOfValues is of X1: every Text that chapter 1 prints is one Quote, which has that value.
func TestQuotesOfValues(t *testing.T) {
	texts := shortTexts("'a ,\\", 4)
	for n := range api.MaxText + 1 {
		texts = append(texts, long(n), strings.Repeat("'", n), strings.Repeat("a'", n/2), strings.Repeat("', ", n/3))
	}
	for _, s := range texts {
		v := api.Val{Type: api.Text, S: s}
		text, err := val.Print(v)
		if err != nil {
			t.Fatalf("Print(%v): %v", v, err)
		}
		l, f := lex.Tokens(" " + text + "=")
		if !slices.Equal(l, []api.Token{quote(text, 1), sign("=", 1+len(text))}) || f != (api.Fault{}) {
			t.Errorf("Tokens(%q): %v, %v", " "+text+"=", l, f)
			continue
		}
		if got, err := val.Parse(l[0].Text); got != v || err != nil {
			t.Errorf("Parse(%q): %v, %v, want %v", l[0].Text, got, err, v)
		}
	}
}

// TestJoin is of X2: the Texts of any tokens, whatever else they say, a blank between.
func TestJoin(t *testing.T) {
	for _, c := range []struct {
		l    []api.Token
		want string
	}{
		{nil, ""},
		{[]api.Token{}, ""},
		{[]api.Token{word("a", 0)}, "a"},
		{[]api.Token{{}}, ""},
		{[]api.Token{{}, {}}, " "},
		{[]api.Token{{}, word("a", 0), {}}, " a "},
		{[]api.Token{word("a", 0), sign("+", 1), word("b", 2)}, "a + b"},
		{[]api.Token{quote("'a'", 0), quote("'b'", 9)}, "'a' 'b'"},
		{[]api.Token{sign("<", 0), sign(">", 1)}, "< >"},
		{[]api.Token{number("1", 50), word("a", -3)}, "1 a"},
		{[]api.Token{{Kind: 9, Text: " \n"}, {Kind: -1, Text: "\xff\x00"}, {Text: "A?'"}}, " \n \xff\x00 A?'"},
		{[]api.Token{word(long(1_000), 0), word(long(1_000), 0)}, long(1_000) + " " + long(1_000)},
	} {
		if got := lex.Join(c.l); got != c.want {
			t.Errorf("Join(%.100v): %.100q, want %.100q", c.l, got, c.want)
		}
	}
	if got := lex.Join(make([]api.Token, 100_000)); got != strings.Repeat(" ", 99_999) {
		t.Errorf("Join of many tokens: %d bytes", len(got))
	}
}

// TestJoinTokens is of X2: tokens of a text, joined, are told once more.
func TestJoinTokens(t *testing.T) {
	for _, c := range cut {
		holdJoined(t, c.want)
	}
	for n := 190; n <= 210; n++ {
		l, f := lex.Tokens(strings.Repeat("(", n))
		if len(l) != n || f != (api.Fault{}) {
			t.Fatalf("Tokens of %d signs: %d, %v", n, len(l), f)
		}
		holdJoined(t, l)
	}
}

// TestListsStay is of P2 and P4: what is handed in stays as it is, and what lies behind its length is not read.
func TestListsStay(t *testing.T) {
	l := []api.Token{word("a", 0), sign("+", 2), word("b", 4), number("1", 6)}
	want := slices.Clone(l)
	for n := range len(l) + 1 {
		texts := []string{"", "a", "a +", "a + b", "a + b 1"}
		if got := lex.Join(l[:n]); got != texts[n] {
			t.Errorf("Join of the first %d: %q, want %q", n, got, texts[n])
		}
	}
	if !slices.Equal(l, want) {
		t.Errorf("the list that was handed in is now %v", l)
	}
}

// TestAnswersFresh is of P2: what a call answers is not changed by what the caller does with another answer.
func TestAnswersFresh(t *testing.T) {
	const text = "a <= 'b' 12"
	first, _ := lex.Tokens(text)
	kept := slices.Clone(first)
	clear(first)
	again, f := lex.Tokens(text)
	if !slices.Equal(again, kept) || f != (api.Fault{}) {
		t.Errorf("Tokens once more: %v, %v, want %v", again, f, kept)
	}
}

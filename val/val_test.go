package val_test

import (
	"math"
	"math/big"
	"slices"
	"strconv"
	"strings"
	"testing"
	"unsafe"

	"sluicebook/api"
	"sluicebook/plain"
	"sluicebook/val"
)

func number(n int) api.Val   { return api.Val{Type: api.Int, N: n} }
func truth(n int) api.Val    { return api.Val{Type: api.Bool, N: n} }
func words(s string) api.Val { return api.Val{Type: api.Text, S: s} }

// long is a text of so many bytes.
func long(n int) string { return strings.Repeat("z", n) }

// edges are numbers at which reckoning may go over, and some ordinary ones, rising.
func edges() []int {
	return []int{
		math.MinInt, math.MinInt + 1, math.MinInt/2 - 1, math.MinInt / 2, -4294967296, -3037000500, -3037000499,
		-7, -3, -2, -1, 0, 1, 2, 3, 7,
		3037000499, 3037000500, 4294967296, math.MaxInt / 2, math.MaxInt/2 + 1, math.MaxInt - 1, math.MaxInt,
	}
}

// sound are values with which nothing is wrong, those of one type in rising order.
func sound() []api.Val {
	var l []api.Val
	for _, n := range edges() {
		l = append(l, number(n))
	}
	l = append(l, truth(0), truth(1))
	for _, s := range []string{"", " ", "'", "''", "'a", "0", "A", "B", "a", "a ", "a'", "a'b", "aa", "b", "it's", long(39), long(40), "~", "~~"} {
		l = append(l, words(s))
	}
	return l
}

// faulty are values and what Check says of them.
var faulty = []struct {
	name string
	v    api.Val
	want api.Errno
}{
	{"no type", api.Val{}, api.ErrRange},
	{"type 4", api.Val{Type: 4}, api.ErrRange},
	{"type -1", api.Val{Type: -1}, api.ErrRange},
	{"least type", api.Val{Type: math.MinInt}, api.ErrRange},
	{"greatest type", api.Val{Type: math.MaxInt}, api.ErrRange},
	{"bool 2", truth(2), api.ErrRange},
	{"bool -1", truth(-1), api.ErrRange},
	{"least bool", truth(math.MinInt), api.ErrRange},
	{"greatest bool", truth(math.MaxInt), api.ErrRange},
	{"one byte too many", words(long(41)), api.ErrFull},
	{"far too many bytes", words(long(100_000)), api.ErrFull},
	{"byte 31", words("\x1f"), api.ErrSyntax},
	{"byte 127", words("\x7f"), api.ErrSyntax},
	{"byte 0", words("\x00"), api.ErrSyntax},
	{"byte 10", words("a\nb"), api.ErrSyntax},
	{"byte 128", words("\x80"), api.ErrSyntax},
	{"byte 255", words("\xff"), api.ErrSyntax},
	{"a rune above 127", words("\u00e9"), api.ErrSyntax},
	{"the last of 40 bytes", words(long(39) + "\x7f"), api.ErrSyntax},
	{"int with a text", api.Val{Type: api.Int, S: "a"}, api.ErrShape},
	{"bool with a text", api.Val{Type: api.Bool, N: 1, S: "a"}, api.ErrShape},
	{"int with a blank", api.Val{Type: api.Int, N: 7, S: " "}, api.ErrShape},
	{"text with a number", api.Val{Type: api.Text, N: 1, S: "a"}, api.ErrShape},
	{"empty text with a number", api.Val{Type: api.Text, N: -1}, api.ErrShape},

	{"no type, too long, a byte", api.Val{N: 1, S: long(41) + "\x7f"}, api.ErrRange},
	{"no type, a byte", api.Val{Type: 4, S: "\x7f"}, api.ErrRange},
	{"no type, a text", api.Val{Type: 4, N: 5, S: "a"}, api.ErrRange},
	{"bool 2 with a text", api.Val{Type: api.Bool, N: 2, S: "a"}, api.ErrRange},
	{"bool 2 with a long text", api.Val{Type: api.Bool, N: 2, S: long(41)}, api.ErrRange},
	{"too long, a byte", words(long(40) + "\x7f"), api.ErrFull},
	{"too long, a byte, a number", api.Val{Type: api.Text, N: 1, S: "\x1f" + long(40)}, api.ErrFull},
	{"too long, a number", api.Val{Type: api.Text, N: 1, S: long(41)}, api.ErrFull},
	{"a byte, a number", api.Val{Type: api.Text, N: 1, S: "\x1f"}, api.ErrSyntax},
	{"int with a long text", api.Val{Type: api.Int, S: long(41)}, api.ErrShape},
	{"bool with a long text", api.Val{Type: api.Bool, S: long(41)}, api.ErrShape},
	{"int with a byte", api.Val{Type: api.Int, S: "\x7f"}, api.ErrShape},
	{"bool with a byte", api.Val{Type: api.Bool, S: "\x1f"}, api.ErrShape},
	{"int with a long text and a byte", api.Val{Type: api.Int, N: 5, S: long(41) + "\x80"}, api.ErrShape},
	{"bool with a long text and a byte", api.Val{Type: api.Bool, N: 1, S: "\n" + long(100_000)}, api.ErrShape},
	{"bool 2 with a byte", api.Val{Type: api.Bool, N: 2, S: "\x7f"}, api.ErrRange},
}

// TestCheckSound is of V1: what a value may be.
func TestCheckSound(t *testing.T) {
	for _, v := range sound() {
		if err := val.Check(v); err != nil {
			t.Errorf("Check(%v): %v", v, err)
		}
	}
}

// TestCheckFaulty is of V1 and P3: each fault, and the first named of several.
func TestCheckFaulty(t *testing.T) {
	for _, c := range faulty {
		if got := plain.Told(val.Check(c.v)); got != c.want {
			t.Errorf("%s: Check: %v, want %v", c.name, got, c.want)
		}
	}
}

// TestIsType is of V1: a value of that type may be, or none.
func TestIsType(t *testing.T) {
	for _, n := range append(edges(), 4, 5, 6, 256+1, 1<<32+1) {
		want := n == api.Int || n == api.Bool || n == api.Text
		if got := val.IsType(n); got != want {
			t.Errorf("IsType(%d): %v", n, got)
		}
	}
}

// TestFresh is of P2: it is the same value, right or wrong, with a text of its own.
func TestFresh(t *testing.T) {
	for _, v := range []api.Val{{}, {Type: 1, N: -5}, {Type: 2, N: 1}, {Type: 3, S: "it's"}, {Type: 9, N: 9, S: "\n\xff"}} {
		got := val.Fresh(v)
		if got != v {
			t.Errorf("Fresh(%v): %v", v, got)
		}
		if v.S != "" && unsafe.StringData(got.S) == unsafe.StringData(v.S) {
			t.Errorf("Fresh(%v): it shares memory", v)
		}
	}
}

// TestFreshAll is of P2 and P4: they are the same values in a list of their own, each with a text of its own; of none it is nothing.
func TestFreshAll(t *testing.T) {
	l := []api.Val{{}, {Type: 1, N: -5}, {Type: 3, S: "it's"}, {Type: 9, N: 9, S: "\n\xff"}, {Type: 3, S: "behind"}}
	for n := range l {
		handed := slices.Clone(l)
		got := val.FreshAll(handed[:n])
		if !slices.Equal(got, l[:n]) || n == 0 && got != nil {
			t.Errorf("FreshAll(%v): %v", l[:n], got)
		}
		for i, v := range got {
			if v.S != "" && unsafe.StringData(v.S) == unsafe.StringData(l[i].S) {
				t.Errorf("FreshAll(%v): it shares memory", l[:n])
			}
			got[i].N = 77
		}
		_ = append(got, api.Val{Type: 9})
		if !slices.Equal(handed, l) {
			t.Errorf("%v was written into: %v", l, handed)
		}
	}
}

// TestCheckBytes is of V1: every byte, at every place of a text.
func TestCheckBytes(t *testing.T) {
	for b := 0; b < 256; b++ {
		want := api.ErrSyntax
		if b >= 32 && b <= 126 {
			want = api.OK
		}
		for at := 0; at < api.MaxText; at++ {
			s := []byte(long(api.MaxText))
			s[at] = byte(b)
			if got := plain.Told(val.Check(words(string(s)))); got != want {
				t.Errorf("byte %d at %d: Check: %v, want %v", b, at, got, want)
			}
		}
	}
}

// TestCompare is of V1: which one is ahead, or that they are of unlike types.
func TestCompare(t *testing.T) {
	l := sound()
	for i, a := range l {
		for j, b := range l {
			want, wrong := 0, api.OK
			switch {
			case a.Type != b.Type:
				wrong = api.ErrType
			case i < j:
				want = -1
			case i > j:
				want = 1
			}
			got, err := val.Compare(a, b)
			if got != want || plain.Told(err) != wrong {
				t.Errorf("Compare(%v, %v): %d, %v, want %d, %v", a, b, got, err, want, wrong)
			}
		}
	}
}

// TestCompareFaulty is of V1: Check of the first, then of the second, then the types.
func TestCompareFaulty(t *testing.T) {
	for _, c := range faulty {
		for _, v := range []api.Val{number(1), truth(1), words("a")} {
			if n, err := val.Compare(c.v, v); n != 0 || plain.Told(err) != c.want {
				t.Errorf("%s: Compare with %v: %d, %v, want %v", c.name, v, n, err, c.want)
			}
			if n, err := val.Compare(v, c.v); n != 0 || plain.Told(err) != c.want {
				t.Errorf("%s: Compare of %v: %d, %v, want %v", c.name, v, n, err, c.want)
			}
		}
		for _, d := range faulty {
			if n, err := val.Compare(c.v, d.v); n != 0 || plain.Told(err) != c.want {
				t.Errorf("Compare of %s with %s: %d, %v, want %v", c.name, d.name, n, err, c.want)
			}
		}
	}
}

// printed are values and their texts.
var printed = []struct {
	v    api.Val
	text string
}{
	{number(0), "0"},
	{number(5), "5"},
	{number(-5), "-5"},
	{number(10), "10"},
	{number(-100), "-100"},
	{number(math.MaxInt), "9223372036854775807"},
	{number(math.MinInt), "-9223372036854775808"},
	{truth(0), "false"},
	{truth(1), "true"},
	{words(""), "''"},
	{words("a"), "'a'"},
	{words(" "), "' '"},
	{words("~"), "'~'"},
	{words("'"), "''''"},
	{words("''"), "''''''"},
	{words("it's"), "'it''s'"},
	{words("'a"), "'''a'"},
	{words("a'"), "'a'''"},
	{words("a,b"), "'a,b'"},
	{words("true"), "'true'"},
	{words("0"), "'0'"},
	{words(`\n"`), `'\n"'`},
	{words(long(40)), "'" + long(40) + "'"},
	{words(strings.Repeat("'", 40)), strings.Repeat("'", 82)},
}

// TestPrintParse is of V2: each form of value, written and read.
func TestPrintParse(t *testing.T) {
	for _, c := range printed {
		if text, err := val.Print(c.v); text != c.text || err != nil {
			t.Errorf("Print(%v): %q, %v, want %q", c.v, text, err, c.text)
		}
		if v, err := val.Parse(c.text); v != c.v || err != nil {
			t.Errorf("Parse(%q): %v, %v, want %v", c.text, v, err, c.v)
		}
	}
}

// TestPrintFaulty is of V2 and P1: what is no value is not written.
func TestPrintFaulty(t *testing.T) {
	for _, c := range faulty {
		if text, err := val.Print(c.v); text != "" || plain.Told(err) != c.want {
			t.Errorf("%s: Print: %q, %v, want %v", c.name, text, err, c.want)
		}
	}
}

// TestRoundTrip is of V2: what is written is read as it was.
func TestRoundTrip(t *testing.T) {
	for _, v := range sound() {
		text, err := val.Print(v)
		if err != nil {
			t.Errorf("Print(%v): %v", v, err)
		}
		if got, err := val.Parse(text); got != v || err != nil {
			t.Errorf("Parse(%q): %v, %v, want %v", text, got, err, v)
		}
	}
}

// TestParseSyntax is of V2: texts that are no value, or almost one.
func TestParseSyntax(t *testing.T) {
	for _, text := range []string{
		"", " ", "-", "+", "--1", "+1", "+0", "-+1", "0-", "1-",
		"00", "01", "-0", "-00", "-01", "007", " 1", "1 ", "1\n", "- 1", "1 2", "1,2",
		"1.0", "1e3", "0x1", "0b1", "0b'", "0o7", "1_000", "1a", "a1", "\u0661", "1\x00",
		"9223372036854775808", "-9223372036854775809", "18446744073709551615", "18446744073709551616",
		"09223372036854775807", strings.Repeat("9", 100_000), strings.Repeat("0", 100_000), "-" + strings.Repeat("1", 50),
		"True", "TRUE", "t", "f", "T", "F", "tru", "truee", "true ", " true", "false ", "fals", "False", "truefalse", "nil", "a",
		"'", "'a", "a'", "'a''", "'''", "'''''", "'a'b'", "'a'''b'", "''a'", "'a'b", "'a' ", " 'a'", "'a'\n", "'a''b", "''''a", "'a','b'",
		`"a"`, "`a`",
		"'\x1f'", "'\x7f'", "'\x00'", "'a\nb'", "'\x80'", "'\xff'", "'\u00e9'", "'a\tb'",
		"'" + long(41), long(41) + "'", "'" + long(41) + "''", "'" + long(20) + "'" + long(21) + "'",
		"'" + long(41) + "\x7f'", "'\x1f" + long(40) + "'", "'" + long(100) + "\n'", "'" + long(41) + "' ",
		strings.Repeat("'", 85), strings.Repeat("'", 83), strings.Repeat("'", 100_001),
	} {
		if v, err := val.Parse(text); v != (api.Val{}) || plain.Told(err) != api.ErrSyntax {
			t.Errorf("Parse(%.100q): %v, %v, want ErrSyntax", text, v, err)
		}
	}
}

// TestParseFull is of V2: texts with which nothing else is wrong than that they are too long.
func TestParseFull(t *testing.T) {
	for _, text := range []string{
		"'" + long(41) + "'",
		"'" + long(100_000) + "'",
		"'" + long(40) + "'''",
		"'''" + long(40) + "'",
		"'" + long(20) + "''" + long(20) + "'",
		strings.Repeat("'", 84),
		"'" + strings.Repeat(" ", 41) + "'",
		"'" + strings.Repeat("~", 41) + "'",
	} {
		if v, err := val.Parse(text); v != (api.Val{}) || plain.Told(err) != api.ErrFull {
			t.Errorf("Parse(%.100q): %v, %v, want ErrFull", text, v, err)
		}
	}
}

// TestParseShort is of V2: of all short texts of some bytes, just those that Print writes are read.
func TestParseShort(t *testing.T) {
	const signs = "'-+01 a\n"
	for _, text := range shortTexts(signs, 5) {
		v, err := val.Parse(text)
		if err != nil {
			if looksPrinted(text) || v != (api.Val{}) || plain.Told(err) != api.ErrSyntax {
				t.Errorf("Parse(%q): %v, %v", text, v, err)
			}
			continue
		}
		if again, err := val.Print(v); again != text || err != nil || !looksPrinted(text) {
			t.Errorf("Parse(%q): %v, which is printed %q, %v", text, v, again, err)
		}
	}
}

// shortTexts are all texts of at most n of the signs.
func shortTexts(signs string, n int) []string {
	all, last := []string{""}, []string{""}
	for range n {
		var next []string
		for _, s := range last {
			for i := range signs {
				next = append(next, s+signs[i:i+1])
			}
		}
		all, last = append(all, next...), next
	}
	return all
}

// looksPrinted tells, in another way than Parse, whether a short text is a number or a text as Print writes it.
func looksPrinted(text string) bool {
	if within, ok := strings.CutPrefix(text, "'"); ok {
		within, ok = strings.CutSuffix(within, "'")
		return ok && !strings.Contains(text, "\n") && !strings.Contains(strings.ReplaceAll(within, "''", ""), "'")
	}
	digits := strings.TrimPrefix(text, "-")
	if digits == "" || strings.Trim(digits, "01") != "" {
		return false
	}
	return text == "0" || digits[0] != '0'
}

// TestReckonPlain is of V2: ordinary numbers, and the way in which quotients are rounded.
func TestReckonPlain(t *testing.T) {
	for _, c := range []struct {
		op         string
		a, b, want int
	}{
		{"+", 2, 3, 5}, {"+", -2, 3, 1}, {"+", 0, 0, 0},
		{"-", 2, 3, -1}, {"-", 2, -3, 5}, {"-", 0, math.MaxInt, -math.MaxInt},
		{"*", 6, 7, 42}, {"*", 6, -7, -42}, {"*", 0, math.MinInt, 0}, {"*", math.MinInt, 0, 0}, {"*", math.MinInt, 1, math.MinInt},
		{"*", 1, math.MinInt, math.MinInt}, {"*", math.MaxInt, -1, -math.MaxInt}, {"*", -1, math.MaxInt, -math.MaxInt},
		{"/", 7, 2, 3}, {"/", -7, 2, -3}, {"/", 7, -2, -3}, {"/", -7, -2, 3}, {"/", 0, 5, 0}, {"/", 1, 2, 0}, {"/", -1, 2, 0},
		{"/", math.MinInt, 1, math.MinInt}, {"/", math.MaxInt, -1, -math.MaxInt}, {"/", math.MinInt, math.MinInt, 1},
		{"%", 7, 2, 1}, {"%", -7, 2, -1}, {"%", 7, -2, 1}, {"%", -7, -2, -1}, {"%", 0, 5, 0}, {"%", 6, 3, 0},
		{"%", math.MinInt, -1, 0}, {"%", math.MinInt, 1, 0}, {"%", math.MinInt, math.MaxInt, -1}, {"%", math.MaxInt, math.MinInt, math.MaxInt},
	} {
		if got, err := val.Reckon(c.op, c.a, c.b); got != c.want || err != nil {
			t.Errorf("Reckon(%q, %d, %d): %d, %v, want %d", c.op, c.a, c.b, got, err, c.want)
		}
	}
}

// TestReckonOver is of V2: what goes over, or has no quotient.
func TestReckonOver(t *testing.T) {
	for _, c := range []struct {
		op   string
		a, b int
	}{
		{"+", math.MaxInt, 1}, {"+", 1, math.MaxInt}, {"+", math.MinInt, -1}, {"+", math.MinInt, math.MinInt}, {"+", math.MaxInt, math.MaxInt},
		{"-", math.MinInt, 1}, {"-", math.MaxInt, -1}, {"-", 0, math.MinInt}, {"-", -2, math.MaxInt},
		{"*", math.MinInt, -1}, {"*", -1, math.MinInt}, {"*", math.MinInt, math.MinInt}, {"*", 3037000500, 3037000500}, {"*", 4294967296, 4294967296},
		{"/", math.MinInt, -1}, {"/", 5, 0}, {"/", 0, 0}, {"/", math.MinInt, 0},
		{"%", 5, 0}, {"%", 0, 0}, {"%", math.MinInt, 0},
	} {
		if got, err := val.Reckon(c.op, c.a, c.b); got != 0 || plain.Told(err) != api.ErrOver {
			t.Errorf("Reckon(%q, %d, %d): %d, %v, want ErrOver", c.op, c.a, c.b, got, err)
		}
	}
}

// TestReckonEdges is of V2: every op at every two edges, held against numbers without a bound.
func TestReckonEdges(t *testing.T) {
	for _, op := range []string{"+", "-", "*", "/", "%"} {
		for _, a := range edges() {
			for _, b := range edges() {
				want, wrong := reckonWide(op, int64(a), int64(b))
				got, err := val.Reckon(op, a, b)
				if got != want || plain.Told(err) != wrong {
					t.Errorf("Reckon(%q, %d, %d): %d, %v, want %d, %v", op, a, b, got, err, want, wrong)
				}
			}
		}
	}
}

func reckonWide(op string, a, b int64) (int, api.Errno) {
	x, y, z := big.NewInt(a), big.NewInt(b), new(big.Int)
	if b == 0 && (op == "/" || op == "%") {
		return 0, api.ErrOver
	}
	switch op {
	case "+":
		z.Add(x, y)
	case "-":
		z.Sub(x, y)
	case "*":
		z.Mul(x, y)
	case "/":
		z.Quo(x, y)
	case "%":
		z.Rem(x, y)
	}
	if !z.IsInt64() {
		return 0, api.ErrOver
	}
	return int(z.Int64()), api.OK
}

// TestReckonNoOp is of V2: an op that is none is told ahead of what would go over.
func TestReckonNoOp(t *testing.T) {
	for _, op := range []string{"", " ", "^", "neg", "=", "<", "and", "++", "+ ", " +", "+\x00", "\x00", "**", "//", "%%", "\u2212", long(100_000)} {
		for _, b := range []int{1, 0, -1} {
			if got, err := val.Reckon(op, math.MinInt, b); got != 0 || plain.Told(err) != api.ErrRange {
				t.Errorf("Reckon(%.20q, least, %d): %d, %v, want ErrRange", op, b, got, err)
			}
		}
	}
}

// TestNothingBesideErrors is of P1: whatever is given, no call panics, and beside an error nothing is answered.
func TestNothingBesideErrors(t *testing.T) {
	var texts []string
	for b := 0; b < 256; b++ {
		s := string([]byte{byte(b)})
		texts = append(texts, s, s+s, "'"+s, s+"'", "'"+s+"'", "-"+s, s+"1", "1"+s, "'"+long(40)+s+"'")
	}
	for _, text := range texts {
		v, err := val.Parse(text)
		tellBeside(t, "Parse("+strconv.Quote(text)+")", err, v == api.Val{})
		for kind := -1; kind <= 5; kind++ {
			for _, n := range []int{math.MinInt, -1, 0, 1, 2, math.MaxInt} {
				v := api.Val{Type: kind, N: n, S: text}
				s, err := val.Print(v)
				tellBeside(t, "Print", err, s == "")
				c, err := val.Compare(v, words(text))
				tellBeside(t, "Compare", err, c == 0)
				r, err := val.Reckon(text, n, kind)
				tellBeside(t, "Reckon", err, r == 0)
			}
		}
	}
}

// tellBeside tells of an error that is none of the program's, or has something beside it.
func tellBeside(t *testing.T, call string, err error, empty bool) {
	t.Helper()
	if err != nil && (plain.Told(err) <= api.OK || !empty) {
		t.Errorf("%s: %v, and something beside it: %v", call, err, !empty)
	}
}

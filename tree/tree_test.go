package tree_test

import (
	"math"
	"math/rand"
	"runtime/debug"
	"slices"
	"strconv"
	"strings"
	"testing"
	"unsafe"

	"sluicebook/api"
	"sluicebook/lex"
	"sluicebook/plain"
	"sluicebook/tree"
	"sluicebook/val"
)

func number(n, at int) api.Expr {
	return api.Expr{Op: "val", Val: api.Val{Type: api.Int, N: n}, At: at}
}

func words(s string, at int) api.Expr {
	return api.Expr{Op: "val", Val: api.Val{Type: api.Text, S: s}, At: at}
}

func truth(n, at int) api.Expr {
	return api.Expr{Op: "val", Val: api.Val{Type: api.Bool, N: n}, At: at}
}

func col(name string, at int) api.Expr { return api.Expr{Op: "col", Name: name, At: at} }

func op(name string, at int, args ...api.Expr) api.Expr {
	return api.Expr{Op: name, Args: args, At: at}
}

// long is a text of so many bytes.
func long(n int) string { return strings.Repeat("z", n) }

// languageWords are in the order of the chapter.
var languageWords = []string{
	"or", "and", "not", "true", "false", "len", "if", "select", "as", "from", "where", "group", "by", "window", "slide", "count", "sum", "least", "most",
}

// levels are the signs that stand between two, the loosest first.
var levels = [][]string{{"or"}, {"and"}, {"=", "<>", "<", "<=", ">", ">="}, {"+", "-"}, {"*", "/", "%"}}

const comparisons = 2 // the level of which there is at most one

func levelOf(sign string) int {
	return slices.IndexFunc(levels, func(l []string) bool { return slices.Contains(l, sign) })
}

// argsOf are the Ops, and how many Args they have.
var argsOf = []struct {
	op string
	n  int
}{
	{"val", 0}, {"col", 0}, {"or", 2}, {"and", 2}, {"not", 1}, {"=", 2}, {"<>", 2}, {"<", 2}, {"<=", 2}, {">", 2}, {">=", 2},
	{"+", 2}, {"-", 2}, {"*", 2}, {"/", 2}, {"%", 2}, {"neg", 1}, {"len", 1}, {"if", 3},
}

// alike tells whether two are the same, At and all.
func alike(a, b api.Expr) bool {
	return a.Op == b.Op && a.Name == b.Name && a.Val == b.Val && a.At == b.At && slices.EqualFunc(a.Args, b.Args, alike)
}

// placed shares no list with what it is of, and has other places.
func placed(e api.Expr, place func(at int) int) api.Expr {
	e.At = place(e.At)
	e.Args = slices.Clone(e.Args)
	for i, a := range e.Args {
		e.Args[i] = placed(a, place)
	}
	return e
}

func copied(e api.Expr) api.Expr { return placed(e, func(at int) int { return at }) }

func moved(e api.Expr) api.Expr { return placed(e, func(at int) int { return at + 7 }) }

func withoutAt(e api.Expr) api.Expr { return placed(e, func(int) int { return 0 }) }

// holdParsed holds what Parse answers against what is wanted.
func holdParsed(t *testing.T, text string, want api.Expr) {
	t.Helper()
	if e, f := tree.Parse(text); !alike(e, want) || f != (api.Fault{}) {
		t.Errorf("Parse(%q): %v, %v, want %v", text, e, f, want)
	}
}

// holdFault is of P1 too: nothing stands beside a fault.
func holdFault(t *testing.T, text string, how api.Errno, at int) {
	t.Helper()
	if e, f := tree.Parse(text); !alike(e, api.Expr{}) || f != (api.Fault{How: how, At: at}) {
		t.Errorf("Parse(%.100q): %v, %v, want %v at %d", text, e, f, how, at)
	}
}

// parsed are texts and their expressions.
var parsed = []struct {
	text string
	want api.Expr
}{
	{"0", number(0, 0)},
	{" 12", number(12, 1)},
	{"9223372036854775807", number(math.MaxInt, 0)},
	{"''", words("", 0)},
	{"\n'it''s'", words("it's", 1)},
	{"'or'", words("or", 0)},
	{"'" + long(40) + "'", words(long(40), 0)},
	{"true", truth(1, 0)},
	{"  false ", truth(0, 2)},
	{"a", col("a", 0)},
	{"abcdefgh", col("abcdefgh", 0)},
	{"val", col("val", 0)},
	{"col", col("col", 0)},
	{"neg", col("neg", 0)},
	{"ifs", col("ifs", 0)},
	{"ors", col("ors", 0)},
	{"o", col("o", 0)},

	{"a or b", op("or", 2, col("a", 0), col("b", 5))},
	{"a and b", op("and", 2, col("a", 0), col("b", 6))},
	{"not a", op("not", 0, col("a", 4))},
	{"a=b", op("=", 1, col("a", 0), col("b", 2))},
	{"a<>b", op("<>", 1, col("a", 0), col("b", 3))},
	{"a<b", op("<", 1, col("a", 0), col("b", 2))},
	{"a<=b", op("<=", 1, col("a", 0), col("b", 3))},
	{"a>b", op(">", 1, col("a", 0), col("b", 2))},
	{"a >= b", op(">=", 2, col("a", 0), col("b", 5))},
	{"a+b", op("+", 1, col("a", 0), col("b", 2))},
	{"a-b", op("-", 1, col("a", 0), col("b", 2))},
	{"a*b", op("*", 1, col("a", 0), col("b", 2))},
	{"a/b", op("/", 1, col("a", 0), col("b", 2))},
	{"a\n%\nb", op("%", 2, col("a", 0), col("b", 4))},
	{"-a", op("neg", 0, col("a", 1))},
	{" - 5", op("neg", 1, number(5, 3))},
	{"-9223372036854775807", op("neg", 0, number(math.MaxInt, 1))},
	{"len(a)", op("len", 0, col("a", 4))},
	{" len ( 'x' ) ", op("len", 1, words("x", 7))},
	{"if(a,b,c)", op("if", 0, col("a", 3), col("b", 5), col("c", 7))},
	{"if ( true , 1 , '' )", op("if", 0, truth(1, 5), number(1, 12), words("", 16))},
	{"(a)", col("a", 1)},
	{"( ( 7 ) )", number(7, 4)},
	{"(a+b)", op("+", 2, col("a", 1), col("b", 3))},

	{"not not a", op("not", 0, op("not", 4, col("a", 8)))},
	{"not a = b", op("not", 0, op("=", 6, col("a", 4), col("b", 8)))},
	{"(not a) = b", op("=", 8, op("not", 1, col("a", 5)), col("b", 10))},
	{"not a and b", op("and", 6, op("not", 0, col("a", 4)), col("b", 10))},
	{"not (a and b)", op("not", 0, op("and", 7, col("a", 5), col("b", 11)))},
	{"not a or b", op("or", 6, op("not", 0, col("a", 4)), col("b", 9))},
	{"a and not b", op("and", 2, col("a", 0), op("not", 6, col("b", 10)))},
	{"a or not not b", op("or", 2, col("a", 0), op("not", 5, op("not", 9, col("b", 13))))},
	{"not - a < b", op("not", 0, op("<", 8, op("neg", 4, col("a", 6)), col("b", 10)))},
	{"not a + b", op("not", 0, op("+", 6, col("a", 4), col("b", 8)))},
	{"not a * b", op("not", 0, op("*", 6, col("a", 4), col("b", 8)))},
	{"a = (not b)", op("=", 2, col("a", 0), op("not", 5, col("b", 9)))},

	{"--a", op("neg", 0, op("neg", 1, col("a", 2)))},
	{"- a * b", op("*", 4, op("neg", 0, col("a", 2)), col("b", 6))},
	{"-(a * b)", op("neg", 0, op("*", 4, col("a", 2), col("b", 6)))},
	{"- a + b", op("+", 4, op("neg", 0, col("a", 2)), col("b", 6))},
	{"- a = b", op("=", 4, op("neg", 0, col("a", 2)), col("b", 6))},
	{"a * - b", op("*", 2, col("a", 0), op("neg", 4, col("b", 6)))},
	{"a--b", op("-", 1, col("a", 0), op("neg", 2, col("b", 3)))},
	{"a---b", op("-", 1, col("a", 0), op("neg", 2, op("neg", 3, col("b", 4))))},
	{"a <-b", op("<", 2, col("a", 0), op("neg", 3, col("b", 4)))},
	{"a % -b % c", op("%", 7, op("%", 2, col("a", 0), op("neg", 4, col("b", 5))), col("c", 9))},
	{"- len(a)", op("neg", 0, op("len", 2, col("a", 6)))},
	{"-if(a,b,c)", op("neg", 0, op("if", 1, col("a", 4), col("b", 6), col("c", 8)))},

	{"(a<b)<c", op("<", 5, op("<", 2, col("a", 1), col("b", 3)), col("c", 6))},
	{"a<(b<c)", op("<", 1, col("a", 0), op("<", 4, col("b", 3), col("c", 5)))},
	{"a < b and c < d", op("and", 6, op("<", 2, col("a", 0), col("b", 4)), op("<", 12, col("c", 10), col("d", 14)))},
	{"a=b or c=d", op("or", 4, op("=", 1, col("a", 0), col("b", 2)), op("=", 8, col("c", 7), col("d", 9)))},
	{"if(a=b,c=d,e=f)", op("if", 0, op("=", 4, col("a", 3), col("b", 5)), op("=", 8, col("c", 7), col("d", 9)), op("=", 12, col("e", 11), col("f", 13)))},
	{"a=len(b=c)", op("=", 1, col("a", 0), op("len", 2, op("=", 7, col("b", 6), col("c", 8))))},
	{"not a=b and not c=d", op("and", 8, op("not", 0, op("=", 5, col("a", 4), col("b", 6))), op("not", 12, op("=", 17, col("c", 16), col("d", 18))))},
	{"len(not a)", op("len", 0, op("not", 4, col("a", 8)))},
	{"if(not a, not b or c, -d)", op("if", 0, op("not", 3, col("a", 7)), op("or", 16, op("not", 10, col("b", 14)), col("c", 19)), op("neg", 22, col("d", 23)))},
	{"len(len(a))", op("len", 0, op("len", 4, col("a", 8)))},
	{"a + b * c - d", op("-", 10, op("+", 2, col("a", 0), op("*", 6, col("b", 4), col("c", 8))), col("d", 12))},
	{"a or b and not c = d + e * - f", op("or", 2, col("a", 0), op("and", 7, col("b", 5), op("not", 11, op("=", 17, col("c", 15), op("+", 21, col("d", 19), op("*", 25, col("e", 23), op("neg", 27, col("f", 29))))))))},
	{"-a*b+c=d and e or f", op("or", 15, op("and", 9, op("=", 6, op("+", 4, op("*", 2, op("neg", 0, col("a", 1)), col("b", 3)), col("c", 5)), col("d", 7)), col("e", 13)), col("f", 18))},
	{strings.Repeat("(", 199) + "ab" + strings.Repeat(")", 199), col("ab", 199)},
}

// TestParse is of T1: each operation, its Args in order, and where its sign or word stands; values and columns; brackets.
func TestParse(t *testing.T) {
	for _, c := range parsed {
		holdParsed(t, c.text, c.want)
	}
}

// TestBetween is of T1: of each two signs the tighter one, several of one kind from the left, and brackets against it.
func TestBetween(t *testing.T) {
	for _, s := range slices.Concat(levels...) {
		for _, u := range slices.Concat(levels...) {
			text := "a " + s + " b " + u + " c"
			b, c := len("a "+s+" "), len(text)-1
			first, second := 2, len("a "+s+" b ")
			fromLeft := op(u, second, op(s, first, col("a", 0), col("b", b)), col("c", c))
			fromRight := op(s, first, col("a", 0), op(u, second, col("b", b), col("c", c)))
			switch {
			case levelOf(s) == comparisons && levelOf(u) == comparisons:
				holdFault(t, text, api.ErrSyntax, second)
			case levelOf(u) > levelOf(s):
				holdParsed(t, text, fromRight)
			default:
				holdParsed(t, text, fromLeft)
			}
			holdSame(t, "(a "+s+" b) "+u+" c", fromLeft)
			holdSame(t, "a "+s+" (b "+u+" c)", fromRight)
		}
	}
}

// holdSame is for texts whose places are held elsewhere.
func holdSame(t *testing.T, text string, want api.Expr) {
	t.Helper()
	if e, f := tree.Parse(text); !alike(withoutAt(e), withoutAt(want)) || f != (api.Fault{}) {
		t.Errorf("Parse(%q): %v, %v, want %v, but for At", text, e, f, want)
	}
}

// TestManyFromLeft is of T1: several of one kind, all ways of four signs of a level.
func TestManyFromLeft(t *testing.T) {
	for i, level := range levels {
		if i == comparisons {
			continue
		}
		for n := range len(level) * len(level) * len(level) {
			signs := []string{level[n%len(level)], level[n/len(level)%len(level)], level[n/len(level)/len(level)]}
			text, want := "a", col("a", 0)
			for _, s := range signs {
				at := len(text) + 1
				text += " " + s + " b"
				want = op(s, at, want, col("b", len(text)-1))
			}
			holdParsed(t, text, want)
		}
	}
}

// TestAhead is of T1: `not` and `-` with each sign that stands between two, on either side.
func TestAhead(t *testing.T) {
	for i, level := range levels {
		for _, s := range level {
			holdSame(t, "- a "+s+" b", op(s, 0, op("neg", 0, col("a", 0)), col("b", 0)))
			holdSame(t, "a "+s+" - b", op(s, 0, col("a", 0), op("neg", 0, col("b", 0))))
			holdSame(t, "- (a "+s+" b)", op("neg", 0, op(s, 0, col("a", 0), col("b", 0))))
			holdSame(t, "not (a "+s+" b)", op("not", 0, op(s, 0, col("a", 0), col("b", 0))))
			holdSame(t, "(not a) "+s+" b", op(s, 0, op("not", 0, col("a", 0)), col("b", 0)))
			holdSame(t, "a "+s+" (not b)", op(s, 0, col("a", 0), op("not", 0, col("b", 0))))
			if i < comparisons {
				holdSame(t, "not a "+s+" b", op(s, 0, op("not", 0, col("a", 0)), col("b", 0)))
				holdSame(t, "a "+s+" not b", op(s, 0, col("a", 0), op("not", 0, col("b", 0))))
			} else {
				holdSame(t, "not a "+s+" b", op("not", 0, op(s, 0, col("a", 0), col("b", 0))))
				holdFault(t, "a "+s+" not b", api.ErrSyntax, len("a "+s+" "))
			}
		}
	}
}

// faulty are texts and the first thing that is wrong with them.
var faulty = []struct {
	text string
	how  api.Errno
	at   int
}{
	{"A", api.ErrSyntax, 0},
	{"a + 5b", api.ErrSyntax, 4},
	{"a + + 007", api.ErrSyntax, 6},
	{") ?", api.ErrSyntax, 2},
	{") 'b", api.ErrSyntax, 2},
	{"9223372036854775808", api.ErrRange, 0},
	{"-9223372036854775808", api.ErrRange, 1},
	{") 9223372036854775808", api.ErrRange, 2},
	{"a '" + long(41) + "'", api.ErrFull, 2},
	{long(401), api.ErrFull, 0},
	{")" + long(400), api.ErrFull, 0},
	{strings.Repeat("a+", 199) + "a ?", api.ErrFull, 0},
	{strings.Repeat("a+", 198) + "a ?", api.ErrSyntax, 398},

	{"", api.ErrSyntax, 0},
	{" \n ", api.ErrSyntax, 3},
	{"(", api.ErrSyntax, 1},
	{"(  ", api.ErrSyntax, 3},
	{"(a", api.ErrSyntax, 2},
	{"not", api.ErrSyntax, 3},
	{"-", api.ErrSyntax, 1},
	{"a +", api.ErrSyntax, 3},
	{"a = ", api.ErrSyntax, 4},
	{"a and\n", api.ErrSyntax, 6},
	{"len", api.ErrSyntax, 3},
	{"len(", api.ErrSyntax, 4},
	{"len(a", api.ErrSyntax, 5},
	{"if", api.ErrSyntax, 2},
	{"if(a", api.ErrSyntax, 4},
	{"if(a,", api.ErrSyntax, 5},
	{"if(a,b", api.ErrSyntax, 6},
	{"if(a,b,c", api.ErrSyntax, 8},
	{strings.Repeat("(", 400), api.ErrSyntax, 400},
	{strings.Repeat("-", 400), api.ErrSyntax, 400},
	{strings.Repeat("not ", 100), api.ErrSyntax, 400},

	{"()", api.ErrSyntax, 1},
	{"(a))", api.ErrSyntax, 3},
	{"a)", api.ErrSyntax, 1},
	{"(a,b)", api.ErrSyntax, 2},
	{"a,b", api.ErrSyntax, 1},
	{"a b", api.ErrSyntax, 2},
	{"a 1", api.ErrSyntax, 2},
	{"1 'b'", api.ErrSyntax, 2},
	{"a not b", api.ErrSyntax, 2},
	{"true false", api.ErrSyntax, 5},
	{"a(b)", api.ErrSyntax, 1},
	{"a(", api.ErrSyntax, 1},
	{"(a)(b)", api.ErrSyntax, 3},
	{"(a) b", api.ErrSyntax, 4},
	{"true(a)", api.ErrSyntax, 4},
	{"len a", api.ErrSyntax, 4},
	{"len()", api.ErrSyntax, 4},
	{"len(a,b)", api.ErrSyntax, 5},
	{"len + a", api.ErrSyntax, 4},
	{"if a", api.ErrSyntax, 3},
	{"if()", api.ErrSyntax, 3},
	{"if(a)", api.ErrSyntax, 4},
	{"if(a, b)", api.ErrSyntax, 7},
	{"if(a,b,)", api.ErrSyntax, 7},
	{"if(,b,c)", api.ErrSyntax, 3},
	{"if(a,,c)", api.ErrSyntax, 5},
	{"if(a,b,c,d)", api.ErrSyntax, 8},
	{"if(a b,c)", api.ErrSyntax, 5},
	{"if + a", api.ErrSyntax, 3},
	{"+ a", api.ErrSyntax, 0},
	{"a + + b", api.ErrSyntax, 4},
	{"a == b", api.ErrSyntax, 3},
	{"a = = b", api.ErrSyntax, 4},
	{"or a", api.ErrSyntax, 0},
	{"a or or b", api.ErrSyntax, 5},
	{"a or and b", api.ErrSyntax, 5},
	{"a < b < c", api.ErrSyntax, 6},
	{"a < b + c = d", api.ErrSyntax, 10},
	{"not a < b < c", api.ErrSyntax, 10},
	{"(a < b < c)", api.ErrSyntax, 7},
	{"if(a < b < c, d, e)", api.ErrSyntax, 9},
	{"a or b = c > d", api.ErrSyntax, 11},
	{"a = not b", api.ErrSyntax, 4},
	{"a + not b", api.ErrSyntax, 4},
	{"a * not b", api.ErrSyntax, 4},
	{"- not b", api.ErrSyntax, 2},
	{"not", api.ErrSyntax, 3},
	{"not )", api.ErrSyntax, 4},

	{long(9), api.ErrSyntax, 0},
	{"a + " + long(9), api.ErrSyntax, 4},
	{long(400), api.ErrSyntax, 0},
	{"a1", api.ErrSyntax, 0},
	{"a + b0", api.ErrSyntax, 4},
	{"or1", api.ErrSyntax, 0},
	{"len1(a)", api.ErrSyntax, 0},
	{"(x9", api.ErrSyntax, 1},
	{"abcdefg8", api.ErrSyntax, 0},
	{"a " + long(9), api.ErrSyntax, 2},
	{long(9) + " )", api.ErrSyntax, 0},
}

// TestFaults is of T2, P1 and P3: chapter 3's fault ahead of all else, then the first token that cannot stand there, or the length of the text.
func TestFaults(t *testing.T) {
	for _, c := range faulty {
		holdFault(t, c.text, c.how, c.at)
	}
}

// TestReader is of T1: an expression is read as far as it goes, and what stands behind it is ahead; where none is read, nothing is beside, and the first token that cannot stand there is ahead.
func TestReader(t *testing.T) {
	for _, c := range []struct {
		text  string
		want  api.Expr
		ok    bool
		place int
	}{
		{"a as b", col("a", 0), true, 2},
		{" a + 1 as b", op("+", 3, col("a", 1), number(1, 5)), true, 7},
		{"a < b < c", op("<", 2, col("a", 0), col("b", 4)), true, 6},
		{"a)", col("a", 0), true, 1},
		{"(a), b", col("a", 1), true, 3},
		{"a  ", col("a", 0), true, 3},
		{"", api.Expr{}, false, 0},
		{"  ", api.Expr{}, false, 2},
		{"as b", api.Expr{}, false, 0},
		{"a + as", api.Expr{}, false, 4},
		{"a or not as", api.Expr{}, false, 9},
		{"a = - ", api.Expr{}, false, 6},
		{"if(a, b) as", api.Expr{}, false, 7},
		{"len(a as", api.Expr{}, false, 6},
		{"(a as", api.Expr{}, false, 3},
		{"(a", api.Expr{}, false, 2},
	} {
		r, f := tree.NewReader(c.text)
		if f != (api.Fault{}) {
			t.Fatalf("NewReader(%q): %v", c.text, f)
		}
		if e, ok := r.Expression(); !alike(e, c.want) || ok != c.ok {
			t.Errorf("Expression of %q: %v, %v, want %v, %v", c.text, e, ok, c.want, c.ok)
		}
		if r.Place() != c.place || r.Ended() != (c.place == len(c.text)) {
			t.Errorf("behind the expression of %q: %d, %v, want %d", c.text, r.Place(), r.Ended(), c.place)
		}
	}
	for _, c := range faulty {
		_, want := lex.Tokens(c.text)
		if r, f := tree.NewReader(c.text); f != want || (r == nil) != (f != api.Fault{}) {
			t.Errorf("NewReader(%.100q): %v, want %v", c.text, f, want)
		}
	}
}

// TestReaderTokens is of T1: tokens are taken from the left, each once, and only if they are so.
func TestReaderTokens(t *testing.T) {
	const text = " select a,'b' 7 "
	r, f := tree.NewReader(text)
	l, _ := lex.Tokens(text)
	if f != (api.Fault{}) || len(l) != 5 {
		t.Fatalf("NewReader(%q): %v, %v", text, f, l)
	}
	for _, want := range l {
		if r.Ended() || r.Place() != want.At {
			t.Errorf("ahead of %v: %v, %d", want, r.Ended(), r.Place())
		}
		if got, ok := r.Take(tree.OneOf("from", want.Text+"x", "")); ok || got != (api.Token{}) || r.Next(tree.OneOf()) {
			t.Errorf("Take of another than %v: %v, %v", want, got, ok)
		}
		if !r.Next(tree.OneOf("from", want.Text)) || !r.Next(func(k api.Token) bool { return k == want }) {
			t.Errorf("Next is not %v", want)
		}
		if got, ok := r.Take(tree.OneOf("from", want.Text)); !ok || got != want {
			t.Errorf("Take of %v: %v, %v", want, got, ok)
		}
	}
	all := func(api.Token) bool { return true }
	if got, ok := r.Take(all); ok || got != (api.Token{}) || r.Next(all) || !r.Ended() || r.Place() != len(text) {
		t.Errorf("at the end: %v, %v, %v, %d", got, ok, r.Ended(), r.Place())
	}
}

// TestIsName is of T1 and T2: 1 to MaxName letters, and no word of the language.
func TestIsName(t *testing.T) {
	for _, s := range []string{"a", "z", "abcdefgh", "val", "col", "neg", "ors", "o", "selects"} {
		if !tree.IsName(s) {
			t.Errorf("IsName(%q): false", s)
		}
	}
	for _, s := range append([]string{"", "abcdefghi", long(1_000), "a1", "1", "A", "a b", "'a'", "(", "\u00e9", "\xff"}, languageWords...) {
		if tree.IsName(s) {
			t.Errorf("IsName(%.100q): true", s)
		}
	}
}

// TestLanguageWords is of T1 and T2: no word of the language is a column, wherever one would stand, nor in Check; what is nearly one is a column.
func TestLanguageWords(t *testing.T) {
	for _, w := range languageWords {
		if plain.Told(tree.Check(col(w, 0))) != api.ErrSyntax {
			t.Errorf("Check of a column %q: %v", w, tree.Check(col(w, 0)))
		}
		holdSame(t, w+"z", col(w+"z", 0))
		holdSame(t, "z"+w, col("z"+w, 0))
		holdSame(t, "'"+w+"'", words(w, 0))
		holdFault(t, "a "+w+"z", api.ErrSyntax, 2)
		if !slices.Contains([]string{"not", "true", "false", "len", "if"}, w) {
			for _, ahead := range []string{"", "(", "a + ", "- ", "not ", "len(", "if(a, b, ", "a or "} {
				holdFault(t, ahead+w, api.ErrSyntax, len(ahead))
				holdFault(t, ahead+w+" (a)", api.ErrSyntax, len(ahead))
			}
		}
		if w != "or" && w != "and" {
			for _, ahead := range []string{"a ", "1 ", "'s' ", "(a) ", "not a ", "len(a) ", "(a "} {
				holdFault(t, ahead+w+" b", api.ErrSyntax, len(ahead))
			}
		}
	}
}

// everyToken has each sign, each word of the language, and values and names right and wrong.
var everyToken = slices.Concat(languageWords, []string{
	"(", ")", ",", "+", "-", "*", "/", "%", "=", "<>", "<=", ">=", "<", ">", "a", "7", "'s'", "x1", "abcdefghi",
})

// TestEveryToken is of T1 and T2: every token behind all beginnings of up to three, and a few behind longer ones.
func TestEveryToken(t *testing.T) {
	holdAll(t, everyToken, 4)
	holdAll(t, []string{"a", "(", ")", "-", "=", "not", "+", "or"}, 7)
	holdAll(t, []string{"a", "if", "len", "(", ")", ","}, 9)
	holdAll(t, []string{"a", "+", "-", "*", "<", "not", "and"}, 8)
	holdAll(t, []string{"1", "or", "and", "=", "-", "%"}, 8)
}

// holdAll holds texts of at most n of the tokens; one token that cannot stand there is held with another behind it, and no further.
func holdAll(t *testing.T, tokens []string, n int) {
	beginnings := []string{""}
	hold(t, "")
	for range n {
		var next []string
		for _, b := range beginnings {
			for _, s := range tokens {
				text := strings.TrimPrefix(b+" "+s, " ")
				at := hold(t, text)
				if at == len(text) {
					next = append(next, text)
				} else {
					hold(t, text+" a")
					hold(t, text+" )")
				}
			}
		}
		beginnings = next
	}
}

// hold holds what Parse answers against the second reading, and gives how far the tokens can stand.
func hold(t *testing.T, text string) int {
	t.Helper()
	l, f := lex.Tokens(text)
	if f != (api.Fault{}) {
		t.Fatalf("Tokens(%q): %v", text, f)
	}
	n, done := standing(l)
	at := len(text)
	if n < len(l) {
		at = l[n].At
	}
	if done && n == len(l) {
		holdParsed(t, text, cut(l))
	} else {
		holdFault(t, text, api.ErrSyntax, at)
	}
	return at
}

// within is what the tokens so far stand in: the whole, a bracket, len or if.
type within struct {
	commas   int  // that are still to come
	compared bool // since what is looser
}

// standing is a second reading of the grammar, from token to token: how many can stand where they do; true: they may end there.
func standing(l []api.Token) (int, bool) {
	in := []within{{}}
	operand, notToo := true, true // an operand is wanted; and `not` would do
	for i := 0; i < len(l); i++ {
		s, top := l[i].Text, &in[len(in)-1]
		opening := 0 // how many commas follow what opens here
		switch {
		case operand && s == "(":
		case operand && s == "len", operand && s == "if":
			if i+1 == len(l) {
				return len(l), false
			}
			if l[i+1].Text != "(" {
				return i + 1, false
			}
			i++
			if s == "if" {
				opening = 2
			}
		default:
			opening = -1
		}
		switch {
		case opening >= 0:
			in = append(in, within{commas: opening})
			notToo = true
		case operand && s == "not" && notToo:
		case operand && s == "-":
			notToo = false
		case operand && isOperand(l[i]):
			operand = false
		case !operand && levelOf(s) >= 0 && levelOf(s) < comparisons:
			operand, notToo, top.compared = true, true, false
		case !operand && levelOf(s) == comparisons && !top.compared:
			operand, notToo, top.compared = true, false, true
		case !operand && levelOf(s) > comparisons:
			operand, notToo = true, false
		case !operand && s == "," && top.commas > 0:
			operand, notToo, top.compared = true, true, false
			top.commas--
		case !operand && s == ")" && top.commas == 0 && len(in) > 1:
			in = in[:len(in)-1]
		default:
			return i, false
		}
	}
	return len(l), !operand && len(in) == 1
}

func isOperand(t api.Token) bool {
	switch t.Kind {
	case api.Number, api.Quote:
		return true
	case api.Word:
		name := len(t.Text) <= 8 && !strings.ContainsAny(t.Text, "0123456789") && !slices.Contains(languageWords, t.Text)
		return name || t.Text == "true" || t.Text == "false"
	}
	return false
}

// cut is a second reading of tokens that may stand so: it cuts them at the last of the loosest signs.
func cut(l []api.Token) api.Expr {
	for i := range levels {
		if i == comparisons && l[0].Text == "not" {
			return op("not", l[0].At, cut(l[1:]))
		}
		if at := lastOf(l, i); at >= 0 {
			return op(l[at].Text, l[at].At, cut(l[:at]), cut(l[at+1:]))
		}
	}
	first, last := l[0], len(l)-1
	switch {
	case first.Text == "-":
		return op("neg", first.At, cut(l[1:]))
	case first.Text == "(":
		return cut(l[1:last])
	case first.Text == "len" || first.Text == "if":
		return op(first.Text, first.At, cutAtCommas(l[2:last])...)
	case first.Kind == api.Number:
		n, _ := strconv.Atoi(first.Text)
		return number(n, first.At)
	case first.Kind == api.Quote:
		return words(strings.ReplaceAll(first.Text[1:len(first.Text)-1], "''", "'"), first.At)
	case first.Text == "true":
		return truth(1, first.At)
	case first.Text == "false":
		return truth(0, first.At)
	}
	return col(first.Text, first.At)
}

// lastOf is where the last sign of a level stands between two, in no bracket; below 0: there is none.
func lastOf(l []api.Token, level int) int {
	at, depth := -1, 0
	for i, t := range l {
		switch {
		case t.Text == "(":
			depth++
		case t.Text == ")":
			depth--
		case depth == 0 && i > 0 && levelOf(t.Text) == level && (l[i-1].Text == ")" || isOperand(l[i-1])):
			at = i
		}
	}
	return at
}

func cutAtCommas(l []api.Token) []api.Expr {
	var args []api.Expr
	depth, from := 0, 0
	for i, t := range l {
		switch {
		case t.Text == "(":
			depth++
		case t.Text == ")":
			depth--
		case t.Text == "," && depth == 0:
			args = append(args, cut(l[from:i]))
			from = i + 1
		}
	}
	return append(args, cut(l[from:]))
}

// chain has n nodes below each other.
func chain(n int) api.Expr {
	e := col("a", 0)
	for range n - 1 {
		e = op("neg", 0, e)
	}
	return e
}

// bush has n nodes, which must be odd, and is not deep.
func bush(n int) api.Expr {
	if n == 1 {
		return col("a", 0)
	}
	left := (n - 1) / 2
	if left%2 == 0 {
		left--
	}
	return op("+", 0, bush(left), bush(n-1-left))
}

// deep are expressions of just so many nodes below each other, by their texts.
func deep(n int) []string {
	return []string{
		strings.Repeat("-", n-1) + "a",
		strings.Repeat("not ", n-1) + "a",
		"a" + strings.Repeat("+a", n-1),
		"a" + strings.Repeat(" or a", n-1),
		strings.Repeat("a+(", n-1) + "a" + strings.Repeat(")", n-1),
		strings.Repeat("len(", n-1) + "a" + strings.Repeat(")", n-1),
		strings.Repeat("if(1,2,", n-1) + "a" + strings.Repeat(")", n-1),
		strings.Repeat("if(", n-1) + "a" + strings.Repeat(",1,2)", n-1),
		"1+2*" + strings.Repeat("-", n-3) + "a",
	}
}

// TestDepth is of T2: MaxDepth nodes below each other may be, and one more may not.
func TestDepth(t *testing.T) {
	for _, n := range []int{29, 30, 31, 32, 40} {
		for _, text := range deep(n) {
			if n > 30 {
				holdFault(t, text, api.ErrFull, 0)
				continue
			}
			e, f := tree.Parse(text)
			if f != (api.Fault{}) || tree.Check(e) != nil {
				t.Errorf("Parse(%q): %v, Check: %v", text, f, tree.Check(e))
			}
		}
		if told := plain.Told(tree.Check(chain(n))); told != fullIf(n > 30) {
			t.Errorf("Check of %d nodes below each other: %v", n, told)
		}
		if s, err := tree.Print(chain(n)); plain.Told(err) != fullIf(n > 30) || (s == "") != (n > 30) {
			t.Errorf("Print of %d nodes below each other: %q, %v", n, s, err)
		}
	}
}

func fullIf(so bool) api.Errno {
	if so {
		return api.ErrFull
	}
	return api.OK
}

// TestNodes is of T2: MaxNodes nodes may be, and one more may not.
func TestNodes(t *testing.T) {
	for n := 181; n <= 221; n += 2 {
		for _, e := range []api.Expr{bush(n), op("neg", 0, bush(n-2)), op("if", 0, bush(61), bush(61), bush(n-122))} {
			holdNodes(t, e)
			holdNodes(t, op("neg", 0, e))
		}
	}
	// So many beside each other, which the Op would not have.
	for n := 198; n <= 202; n++ {
		e := api.Expr{Op: "+", Args: slices.Repeat([]api.Expr{col("a", 0)}, n)}
		want := api.ErrShape
		if n+1 > 200 {
			want = api.ErrFull
		}
		if err := tree.Check(e); plain.Told(err) != want {
			t.Errorf("Check of %d Args: %v, want %v", n, err, want)
		}
	}
}

func holdNodes(t *testing.T, e api.Expr) {
	t.Helper()
	n := count(e)
	if got := tree.Size(e); got != n {
		t.Errorf("Size: %d, want %d", got, n)
	}
	if err := tree.Check(e); plain.Told(err) != fullIf(n > 200) {
		t.Errorf("Check of %d nodes: %v", n, err)
	}
	if s, err := tree.Print(e); plain.Told(err) != fullIf(n > 200) || (s == "") != (n > 200) {
		t.Errorf("Print of %d nodes: %q, %v", n, s, err)
	}
	text := short(e)
	if len(text) > 400 {
		t.Fatalf("a text of %d nodes has %d bytes", n, len(text))
	}
	if n > 200 {
		holdFault(t, text, api.ErrFull, 0)
	} else {
		holdSame(t, text, e)
	}
	// What cannot stand there is told ahead of how many there are.
	holdFault(t, text+")", api.ErrSyntax, len(text))
	holdFault(t, text+"+", api.ErrSyntax, len(text)+1)
}

func count(e api.Expr) int {
	n := 1
	for _, a := range e.Args {
		n += count(a)
	}
	return n
}

// short writes what bush, neg and if are made of with no bracket that is not needed.
func short(e api.Expr) string {
	switch e.Op {
	case "col":
		return e.Name
	case "neg":
		if e.Args[0].Op == "+" {
			return "-(" + short(e.Args[0]) + ")"
		}
		return "-" + short(e.Args[0])
	case "if":
		return "if(" + short(e.Args[0]) + "," + short(e.Args[1]) + "," + short(e.Args[2]) + ")"
	}
	right := short(e.Args[1])
	if e.Args[1].Op == "+" {
		right = "(" + right + ")"
	}
	return short(e.Args[0]) + "+" + right
}

// TestPrint is of T2: each operation as the chapter shows it.
func TestPrint(t *testing.T) {
	a, b, c := col("a", 5), col("b", -1), col("c", 900)
	for _, p := range []struct {
		e    api.Expr
		want string
	}{
		{a, "a"},
		{col("abcdefgh", 0), "abcdefgh"},
		{number(0, 0), "0"},
		{number(math.MaxInt, 0), "9223372036854775807"},
		{truth(1, 0), "true"},
		{truth(0, 0), "false"},
		{words("", 0), "''"},
		{words("it's", 0), "'it''s'"},
		{words("a b", 0), "'a b'"},
		{op("or", 0, a, b), "(a or b)"},
		{op("and", 0, a, b), "(a and b)"},
		{op("not", 0, a), "(not a)"},
		{op("=", 0, a, b), "(a = b)"},
		{op("<>", 0, a, b), "(a <> b)"},
		{op("<", 0, a, b), "(a < b)"},
		{op("<=", 0, a, b), "(a <= b)"},
		{op(">", 0, a, b), "(a > b)"},
		{op(">=", 0, a, b), "(a >= b)"},
		{op("+", 0, a, b), "(a + b)"},
		{op("-", 0, a, b), "(a - b)"},
		{op("*", 0, a, b), "(a * b)"},
		{op("/", 0, a, b), "(a / b)"},
		{op("%", 0, a, b), "(a % b)"},
		{op("neg", 0, a), "(- a)"},
		{op("len", 0, a), "len(a)"},
		{op("if", 0, a, b, c), "if(a, b, c)"},
		{op("neg", 0, op("neg", 0, number(5, 0))), "(- (- 5))"},
		{op("not", 0, op("not", 0, a)), "(not (not a))"},
		{op("len", 0, op("+", 0, a, b)), "len((a + b))"},
		{op("neg", 0, op("len", 0, a)), "(- len(a))"},
		{op("-", 0, op("+", 0, a, op("*", 0, b, c)), number(7, 0)), "((a + (b * c)) - 7)"},
		{op("if", 0, op("=", 0, a, words("x", 0)), op("neg", 0, b), op("if", 0, a, b, c)), "if((a = 'x'), (- b), if(a, b, c))"},
	} {
		if got, err := tree.Print(p.e); got != p.want || err != nil {
			t.Errorf("Print(%v): %q, %v, want %q", p.e, got, err, p.want)
		}
		holdSame(t, p.want, p.e)
	}
}

// wrong are expressions and what Check says of them.
var wrong = []struct {
	e    api.Expr
	want api.Errno
}{
	{api.Expr{}, api.ErrSyntax},
	{op("", 0, col("a", 0)), api.ErrSyntax},
	{op("nor", 0, col("a", 0), col("b", 0)), api.ErrSyntax},
	{op("==", 0, col("a", 0), col("b", 0)), api.ErrSyntax},
	{op("!=", 0, col("a", 0), col("b", 0)), api.ErrSyntax},
	{op("(", 0, col("a", 0)), api.ErrSyntax},
	{op(",", 0, col("a", 0), col("b", 0)), api.ErrSyntax},
	{op("Or", 0, col("a", 0), col("b", 0)), api.ErrSyntax},
	{op(" or", 0, col("a", 0), col("b", 0)), api.ErrSyntax},
	{op("true", 0), api.ErrSyntax},
	{op("sum", 0, col("a", 0)), api.ErrSyntax},
	{op("select", 0), api.ErrSyntax},
	{op("value", 0), api.ErrSyntax},
	{op("\xff", 0), api.ErrSyntax},
	{op(long(100_000), 0), api.ErrSyntax},
	{col("", 0), api.ErrSyntax},
	{col(long(9), 0), api.ErrSyntax},
	{col(long(100_000), 0), api.ErrSyntax},
	{col("a1", 0), api.ErrSyntax},
	{col("1", 0), api.ErrSyntax},
	{col("A", 0), api.ErrSyntax},
	{col("a b", 0), api.ErrSyntax},
	{col(" a", 0), api.ErrSyntax},
	{col("a_", 0), api.ErrSyntax},
	{col("\u00e9", 0), api.ErrSyntax},
	{col("\xff", 0), api.ErrSyntax},
	{col("a\x00", 0), api.ErrSyntax},
	{col("'a'", 0), api.ErrSyntax},

	{api.Expr{Op: "col", Name: "a", Args: []api.Expr{col("b", 0)}}, api.ErrShape},
	{api.Expr{Op: "col", Name: "a", Val: api.Val{Type: api.Int}}, api.ErrShape},
	{api.Expr{Op: "col", Name: "a", Val: api.Val{N: 1}}, api.ErrShape},
	{api.Expr{Op: "col", Name: "a", Val: api.Val{S: "x"}}, api.ErrShape},
	{api.Expr{Op: "val", Val: api.Val{Type: api.Int}, Name: "a"}, api.ErrShape},
	{api.Expr{Op: "val", Val: api.Val{Type: api.Int}, Args: []api.Expr{col("b", 0)}}, api.ErrShape},
	{api.Expr{Op: "not", Name: "a", Args: []api.Expr{col("b", 0)}}, api.ErrShape},
	{api.Expr{Op: "not", Val: api.Val{Type: api.Bool}, Args: []api.Expr{col("b", 0)}}, api.ErrShape},

	{api.Expr{Op: "val"}, api.ErrRange},
	{api.Expr{Op: "val", Val: api.Val{Type: 4}}, api.ErrRange},
	{api.Expr{Op: "val", Val: api.Val{Type: -1}}, api.ErrRange},
	{truth(2, 0), api.ErrRange},
	{truth(-1, 0), api.ErrRange},
	{words(long(41), 0), api.ErrFull},
	{words("\n", 0), api.ErrSyntax},
	{words("\x7f", 0), api.ErrSyntax},
	{api.Expr{Op: "val", Val: api.Val{Type: api.Text, N: 1}}, api.ErrShape},
	{api.Expr{Op: "val", Val: api.Val{Type: api.Text, N: -1}}, api.ErrShape},
	{api.Expr{Op: "val", Val: api.Val{Type: api.Int, S: "x"}}, api.ErrShape},
	{api.Expr{Op: "val", Val: api.Val{Type: api.Bool, S: "x"}}, api.ErrShape},
	{number(-1, 0), api.ErrRange},
	{number(math.MinInt, 0), api.ErrRange},

	// Of several at one node the first.
	{api.Expr{Op: "nor", Name: "a", Val: api.Val{Type: 9}, Args: []api.Expr{{}}}, api.ErrSyntax},
	{api.Expr{Op: "col", Name: "or", Val: api.Val{Type: 9}}, api.ErrSyntax},
	{api.Expr{Op: "col", Args: []api.Expr{col("a", 0)}}, api.ErrSyntax},
	{api.Expr{Op: "val", Name: "a", Val: api.Val{Type: 9}}, api.ErrShape},
	{api.Expr{Op: "val", Name: "a", Val: api.Val{Type: api.Int, N: -1}}, api.ErrShape},
	{api.Expr{Op: "val", Args: []api.Expr{col("a", 0)}}, api.ErrShape},
	{api.Expr{Op: "val", Args: []api.Expr{col("a", 0)}, Val: api.Val{Type: api.Text, S: "\n"}}, api.ErrShape},
	{api.Expr{Op: "val", Val: api.Val{Type: api.Int, N: -1, S: "x"}}, api.ErrShape},

	// Of two nodes the one ahead, which is the one above, or further left.
	{op("not", 0, number(-1, 0), col("", 0)), api.ErrShape},
	{op("nor", 0, number(-1, 0)), api.ErrSyntax},
	{op("+", 0, col("a", 0)), api.ErrShape},
	{op("+", 0, number(-1, 0), col("", 0)), api.ErrRange},
	{op("+", 0, col("", 0), number(-1, 0)), api.ErrSyntax},
	{op("+", 0, op("not", 0), number(-1, 0)), api.ErrShape},
	{op("+", 0, op("not", 0, number(-1, 0)), col("", 0)), api.ErrRange},
	{op("+", 0, op("not", 0, op("not", 0, words("\n", 0))), op("not", 0)), api.ErrSyntax},
	{op("+", 0, col("a", 0), op("not", 0)), api.ErrShape},
	{op("if", 0, col("a", 0), words(long(41), 0), col("", 0)), api.ErrFull},
	{op("if", 0, col("a", 0), op("len", 0, number(-5, 0)), col("", 0)), api.ErrRange},

	// How many there are goes ahead of all else.
	{op("nor", 0, chain(30)), api.ErrFull},
	{op("nor", 0, chain(29)), api.ErrSyntax},
	{op("nor", 0, bush(201)), api.ErrFull},
	{op("nor", 0, bush(199)), api.ErrSyntax},
	{op("+", 0, col("", 0), chain(30)), api.ErrFull},
	{op("+", 0, op("not", 0), chain(29)), api.ErrShape},
	{op("+", 0, number(-1, 0), bush(199)), api.ErrFull},
	{op("+", 0, number(-1, 0), bush(197)), api.ErrRange},
}

// TestCheckWrong is of T2, P1 and P3: each error, the first of several, and nothing printed beside it.
func TestCheckWrong(t *testing.T) {
	for _, c := range wrong {
		holdWrong(t, c.e, c.want)
		if c.want != api.ErrFull && count(c.e) < 20 {
			holdWrong(t, op("not", 0, c.e), c.want)
			holdWrong(t, op("=", 0, col("a", 0), c.e), c.want)
			holdWrong(t, op("if", 0, col("a", 0), c.e, api.Expr{}), c.want)
		}
	}
}

func holdWrong(t *testing.T, e api.Expr, want api.Errno) {
	t.Helper()
	if err := tree.Check(e); plain.Told(err) != want {
		t.Errorf("Check(%.300q): %v, want %v", show(e), err, want)
	}
	if s, err := tree.Print(e); s != "" || plain.Told(err) != want {
		t.Errorf("Print(%.300q): %q, %v, want %v", show(e), s, err, want)
	}
	if got, err := tree.Fresh(e); !alike(got, api.Expr{}) || plain.Told(err) != want {
		t.Errorf("Fresh(%.300q): %v, %v, want %v", show(e), got, err, want)
	}
}

// show tells an expression, whatever is wrong with it.
func show(e api.Expr) string {
	s := "{" + e.Op + " " + e.Name + " " + strconv.Itoa(e.Val.Type) + " " + strconv.Itoa(e.Val.N) + " " + e.Val.S
	for _, a := range e.Args {
		s += " " + show(a)
	}
	return s + "}"
}

// TestArgs is of T2: each Op with as many Args as it has, and with another number of them.
func TestArgs(t *testing.T) {
	for _, o := range argsOf {
		for n := range 6 {
			e := api.Expr{Op: o.op, Args: slices.Repeat([]api.Expr{col("a", 0)}, n)}
			if o.op == "col" {
				e.Name = "b"
			}
			if o.op == "val" {
				e.Val.Type = api.Int
			}
			want := api.OK
			if n != o.n {
				want = api.ErrShape
			}
			if err := tree.Check(e); plain.Told(err) != want {
				t.Errorf("Check of %q with %d Args: %v, want %v", o.op, n, err, want)
			}
			if got := tree.Size(e); got != n+1 {
				t.Errorf("Size of %q with %d Args: %d", o.op, n, got)
			}
			e.At = -5
			if err := tree.Check(e); plain.Told(err) != want {
				t.Errorf("Check of %q with another At: %v, want %v", o.op, err, want)
			}
			if o.op != "col" {
				e.Name = "b"
				holdWrong(t, e, api.ErrShape)
				e.Name = ""
			}
			if o.op != "val" {
				for _, v := range []api.Val{{Type: 1}, {Type: 9}, {N: 1}, {N: -1}, {S: " "}, {S: "\n"}, {S: long(41)}} {
					e.Val = v
					holdWrong(t, e, api.ErrShape)
				}
			}
		}
	}
}

// TestCheckRight is of T2: nothing is wrong with what is right, whatever its At.
func TestCheckRight(t *testing.T) {
	for _, c := range parsed {
		if err := tree.Check(c.want); err != nil {
			t.Errorf("Check of what %q is: %v", c.text, err)
		}
		if err := tree.Check(moved(c.want)); err != nil {
			t.Errorf("Check of what %q is, moved: %v", c.text, err)
		}
	}
	e := col("a", math.MinInt)
	e.Args = []api.Expr{}
	if err := tree.Check(e); err != nil {
		t.Errorf("Check with an empty list: %v", err)
	}
}

// unlike are expressions of which no two are the same, right ones and others.
func unlike() []api.Expr {
	l := []api.Expr{
		{}, {Name: "a"}, {Val: api.Val{Type: 1}}, {Val: api.Val{N: 1}}, {Val: api.Val{S: "a"}}, {Args: []api.Expr{{}}}, {Args: []api.Expr{{}, {}}},
		{Args: []api.Expr{{Args: []api.Expr{{}}}}}, {Args: []api.Expr{{}, {Args: []api.Expr{{}}}}}, {Args: []api.Expr{{Args: []api.Expr{{}}}, {}}},
		col("a", 0), col("b", 0), col("", 0), col("aa", 0), {Op: "val", Name: "a"}, {Op: "a", Name: "col"}, {Op: "cola"}, {Name: "cola"},
		number(0, 0), number(1, 0), number(-1, 0), truth(0, 0), truth(1, 0), words("", 0), words("a", 0), words("b", 0), words("\xff", 0),
		{Op: "val", Val: api.Val{Type: 1, N: 1, S: "a"}}, {Op: "val", Val: api.Val{Type: 2, N: 1, S: "a"}},
		op("not", 0, col("a", 0)), op("neg", 0, col("a", 0)), op("not", 0, col("b", 0)), op("not", 0), op("not", 0, op("not", 0, col("a", 0))),
		op("+", 0, col("a", 0), col("b", 0)), op("+", 0, col("b", 0), col("a", 0)), op("+", 0, col("a", 0)), op("+", 0, col("a", 0), col("b", 0), col("c", 0)),
		op("-", 0, col("a", 0), col("b", 0)), {Op: "+", Name: "x", Args: []api.Expr{col("a", 0), col("b", 0)}},
		op("+", 0, op("+", 0, col("a", 0), col("b", 0)), col("c", 0)), op("+", 0, col("a", 0), op("+", 0, col("b", 0), col("c", 0))),
		op("if", 0, col("a", 0), col("b", 0), col("c", 0)), op("if", 0, col("a", 0), col("c", 0), col("b", 0)),
		chain(30), chain(31), chain(500), bush(199), bush(201), bush(999), op("nor", 0, chain(40)),
	}
	return l
}

// TestSame is of T2: each is the same as itself, moved, and as no other, also where they are not right.
func TestSame(t *testing.T) {
	l := unlike()
	for i, a := range l {
		for j, b := range l {
			if got := tree.Same(a, moved(b)); got != (i == j) {
				t.Errorf("Same(%.200q, %.200q): %v", show(a), show(b), got)
			}
		}
		if !tree.Same(a, a) || !tree.Same(moved(a), a) {
			t.Errorf("Same of %.200q and itself: false", show(a))
		}
	}
	empty := api.Expr{Args: []api.Expr{}}
	if !tree.Same(empty, api.Expr{}) || !tree.Same(api.Expr{}, empty) {
		t.Error("Same of an empty list and none: false")
	}
}

// TestSameOneChange is of T2: one change anywhere in it, but of At, makes another.
func TestSameOneChange(t *testing.T) {
	e := op("if", 1, op("=", 2, col("a", 3), number(1, 4)), op("neg", 5, op("len", 6, words("x", 7))), op("-", 8, bush(9), truth(1, 9)))
	for n := range count(e) {
		for what, change := range []func(x *api.Expr){
			func(x *api.Expr) { x.Op += "x" },
			func(x *api.Expr) { x.Name += "x" },
			func(x *api.Expr) { x.Val.Type++ },
			func(x *api.Expr) { x.Val.N++ },
			func(x *api.Expr) { x.Val.S += "x" },
			func(x *api.Expr) { x.Args = append(x.Args, api.Expr{}) },
			func(x *api.Expr) { x.At = -x.At - 1 },
		} {
			other := copied(e)
			left := n
			changeAt(&other, &left, change)
			if want := what == 6; tree.Same(e, other) != want || tree.Same(other, e) != want {
				t.Errorf("Same with change %d at node %d: %v, %v, want %v", what, n, tree.Same(e, other), tree.Same(other, e), want)
			}
		}
	}
}

// changeAt changes the node of which so many go ahead.
func changeAt(e *api.Expr, left *int, change func(x *api.Expr)) {
	if *left == 0 {
		change(e)
	}
	*left--
	for i := 0; i < len(e.Args) && *left >= 0; i++ {
		changeAt(&e.Args[i], left, change)
	}
}

// TestSize is of T2: how many nodes, of any expression.
func TestSize(t *testing.T) {
	for _, e := range unlike() {
		if got := tree.Size(e); got != count(e) {
			t.Errorf("Size(%.200q): %d, want %d", show(e), got, count(e))
		}
	}
	for _, c := range parsed {
		if got := tree.Size(c.want); got != count(c.want) {
			t.Errorf("Size of what %q is: %d, want %d", c.text, got, count(c.want))
		}
	}
	wide := api.Expr{Args: make([]api.Expr, 100_000)}
	if got := tree.Size(wide); got != 100_001 {
		t.Errorf("Size of many Args: %d", got)
	}
	if got := tree.Size(doubled(18)); got != 1<<19-1 {
		t.Errorf("Size of 18 times two: %d", got)
	}
}

// doubled has twice as many nodes at each step down, in little memory.
func doubled(n int) api.Expr {
	e := col("a", 0)
	for range n {
		e = op("+", 0, e, e)
	}
	return e
}

// some is an expression by chance, at most so deep.
func some(r *rand.Rand, depth int) api.Expr {
	o := argsOf[r.Intn(len(argsOf))]
	if depth == 1 {
		o = argsOf[r.Intn(2)]
	}
	e := api.Expr{Op: o.op}
	switch o.op {
	case "col":
		e.Name = []string{"a", "b", "at", "abcdefgh", "ors", "ifs", "val", "col", "neg", "nota"}[r.Intn(10)]
	case "val":
		e.Val = []api.Val{
			{Type: api.Int}, {Type: api.Int, N: 7}, {Type: api.Int, N: math.MaxInt}, {Type: api.Bool}, {Type: api.Bool, N: 1},
			{Type: api.Text}, {Type: api.Text, S: "or"}, {Type: api.Text, S: "'"}, {Type: api.Text, S: "(a, b) - '"}, {Type: api.Text, S: long(40)},
		}[r.Intn(10)]
	}
	for range o.n {
		e.Args = append(e.Args, some(r, depth-1))
	}
	return e
}

// TestPrinted is of T2: what is printed is read as it was, but for At, if it is not too long; and printed so again.
func TestPrinted(t *testing.T) {
	r := rand.New(rand.NewSource(1))
	read := 0
	for range 30_000 {
		e := some(r, 1+r.Intn(6))
		if n := count(e); n > 200 {
			holdWrong(t, e, api.ErrFull)
			continue
		}
		text, err := tree.Print(e)
		if err != nil || text != plainPrint(e) {
			t.Errorf("Print(%q): %q, %v, want %q", show(e), text, err, plainPrint(e))
			continue
		}
		if len(text) > 400 {
			holdFault(t, text, api.ErrFull, 0)
			continue
		}
		read++
		got, f := tree.Parse(text)
		if f != (api.Fault{}) || !tree.Same(got, e) || !alike(withoutAt(got), withoutAt(e)) {
			t.Errorf("Parse(%q): %v, %v, printed of %v", text, got, f, e)
		}
		hold(t, text)
		if again, err := tree.Print(got); again != text || err != nil {
			t.Errorf("Print of what %q is: %q, %v", text, again, err)
		}
	}
	if read < 10_000 {
		t.Errorf("only %d were read", read)
	}
}

func plainPrint(e api.Expr) string {
	var args []string
	for _, a := range e.Args {
		args = append(args, plainPrint(a))
	}
	switch e.Op {
	case "col":
		return e.Name
	case "val":
		s, _ := val.Print(e.Val)
		return s
	case "len", "if":
		return e.Op + "(" + strings.Join(args, ", ") + ")"
	case "neg":
		return "(- " + args[0] + ")"
	case "not":
		return "(not " + args[0] + ")"
	}
	return "(" + args[0] + " " + e.Op + " " + args[1] + ")"
}

// TestAnyText is of P1 and T2: texts by chance are read or have a fault, with nothing beside it, and what is read is right.
func TestAnyText(t *testing.T) {
	r := rand.New(rand.NewSource(2))
	pieces := append([]string{" ", "\n", "?", "'", "A", "\xff", "007", "1b", "9223372036854775808", "'" + long(41) + "'"}, everyToken...)
	for range 100_000 {
		text := ""
		for range r.Intn(12) {
			text += pieces[r.Intn(len(pieces))] + []string{"", " "}[r.Intn(2)]
		}
		l, fault := lex.Tokens(text)
		if fault != (api.Fault{}) {
			holdFault(t, text, fault.How, fault.At)
			continue
		}
		if n, done := standing(l); !done || n < len(l) {
			at := len(text)
			if n < len(l) {
				at = l[n].At
			}
			holdFault(t, text, api.ErrSyntax, at)
			continue
		}
		holdParsed(t, text, cut(l))
	}
	for range 100_000 {
		b := make([]byte, r.Intn(30))
		r.Read(b)
		e, f := tree.Parse(string(b))
		if f.How != api.OK && !alike(e, api.Expr{}) || f.How == api.OK && tree.Check(e) != nil {
			t.Errorf("Parse(%q): %v, %v", b, e, f)
		}
	}
}

// TestEndless is of P1: what is far too great, or stands within itself, is told to be too great.
func TestEndless(t *testing.T) {
	holdFull(t, doubled(25))
	holdFull(t, doubled(100))
	own := make([]api.Expr, 1)
	own[0] = op("not", 0, own...)
	holdFull(t, own[0])
	both := make([]api.Expr, 2)
	both[0], both[1] = col("a", 0), op("+", 0, both...)
	holdFull(t, both[1])
	if tree.Same(doubled(100), op("+", 0, op("-", 0, col("a", 0), col("a", 0)), doubled(99))) {
		t.Error("Same of two that differ near the top: true")
	}
}

// TestDeep is of P1: what lies deeper than calls could go is asked all the same.
func TestDeep(t *testing.T) {
	// Calls as deep as this would need far more.
	defer debug.SetMaxStack(debug.SetMaxStack(8 << 20))
	const n = 500_000
	a, b := chain(n), chain(n)
	if got := tree.Size(a); got != n {
		t.Errorf("Size: %d, want %d", got, n)
	}
	if !tree.Same(a, b) || tree.Same(a, op("neg", 0, b)) {
		t.Error("Same of deep ones")
	}
	holdFull(t, a)
}

// holdFull is for what is too great to be shown.
func holdFull(t *testing.T, e api.Expr) {
	t.Helper()
	if err := tree.Check(e); plain.Told(err) != api.ErrFull {
		t.Errorf("Check: %v, want ErrFull", err)
	}
	if s, err := tree.Print(e); s != "" || plain.Told(err) != api.ErrFull {
		t.Errorf("Print: %.100q, %v, want ErrFull", s, err)
	}
	if got, err := tree.Fresh(e); !alike(got, api.Expr{}) || plain.Told(err) != api.ErrFull {
		t.Errorf("Fresh: %v, want ErrFull", err)
	}
}

// TestFresh is of P2 and P4: it is the same expression, At and all, and each of its lists and texts has memory of its own, also where those that were handed in share some.
func TestFresh(t *testing.T) {
	shared := []api.Expr{words("it's", 1), col("abc", 3)}
	all := []api.Expr{op("+", 2, shared...), op("if", 0, op("=", 2, shared...), op("<", 7, shared...), op("<", 7, shared...))}
	for _, c := range parsed {
		all = append(all, moved(c.want))
	}
	for _, e := range all {
		want := copied(e)
		handed := roomy(e)
		handedLists, handedTexts := memory(handed)
		got, err := tree.Fresh(handed)
		if err != nil || !alike(got, want) {
			t.Errorf("Fresh(%.300q): %v, %v", show(want), got, err)
		}
		lists, texts := memory(got)
		for at, times := range lists {
			if times > 1 || handedLists[at] > 0 {
				t.Errorf("Fresh(%.300q): it shares a list", show(want))
			}
		}
		for at := range texts {
			if handedTexts[at] > 0 {
				t.Errorf("Fresh(%.300q): it shares a text", show(want))
			}
		}
		if !alike(handed, want) || !behind(handed) {
			t.Errorf("Fresh(%.300q): it was written into", show(want))
		}
	}
}

// memory counts what lies in the lists of an expression, and its texts, by where they lie.
func memory(e api.Expr) (map[*api.Expr]int, map[*byte]int) {
	lists, texts := map[*api.Expr]int{}, map[*byte]int{}
	var count func(e api.Expr)
	count = func(e api.Expr) {
		for _, s := range []string{e.Op, e.Name, e.Val.S} {
			if s != "" {
				texts[unsafe.StringData(s)]++
			}
		}
		for i := range e.Args[:cap(e.Args)] {
			lists[&e.Args[:cap(e.Args)][i]]++
		}
		for _, a := range e.Args {
			count(a)
		}
	}
	count(e)
	return lists, texts
}

// roomy has room behind each of its lists, and something in it.
func roomy(e api.Expr) api.Expr {
	args := make([]api.Expr, len(e.Args), len(e.Args)+2)
	for i, a := range e.Args {
		args[i] = roomy(a)
	}
	for i := range 2 {
		args[:cap(args)][len(args)+i] = col("behind", i)
	}
	e.Args = args
	return e
}

// behind tells whether all that roomy laid is as it was.
func behind(e api.Expr) bool {
	so := slices.EqualFunc(e.Args[len(e.Args):cap(e.Args)], []api.Expr{col("behind", 0), col("behind", 1)}, alike)
	for _, a := range e.Args {
		so = so && behind(a)
	}
	return so
}

// TestListsStay is of P2 and P4: what is handed in stays as it is, and what lies behind its length is neither read nor written.
func TestListsStay(t *testing.T) {
	for _, e := range unlike() {
		a, b := roomy(e), roomy(e)
		text, err := tree.Print(a)
		want, wantErr := tree.Print(e)
		if text != want || err != wantErr || plain.Told(tree.Check(a)) != plain.Told(tree.Check(e)) {
			t.Errorf("Print(%.200q): %q, %v, want %q, %v", show(e), text, err, want, wantErr)
		}
		if tree.Size(a) != count(e) || !tree.Same(a, b) || !tree.Same(e, a) {
			t.Errorf("Size or Same of %.200q reads behind a list", show(e))
		}
		if !alike(a, e) || !alike(b, e) || !behind(a) || !behind(b) {
			t.Errorf("%.200q was written into", show(e))
		}
	}
}

// TestAnswersFresh is of P2: what a call answers is not changed by what the caller does with another answer, nor do its lists share memory.
func TestAnswersFresh(t *testing.T) {
	for _, c := range parsed {
		first, _ := tree.Parse(c.text)
		spoil(&first)
		holdParsed(t, c.text, c.want)
	}
	const text = "if(a + b, len(c) - d, if(e, f, - g)) or not h"
	e, _ := tree.Parse(text)
	want := copied(e)
	for i := range e.Args {
		_ = append(e.Args[i].Args, api.Expr{Op: "more"})
		for j := range e.Args[i].Args {
			_ = append(e.Args[i].Args[j].Args, api.Expr{Op: "more"})
		}
	}
	_ = append(e.Args, api.Expr{Op: "more"})
	if !alike(e, want) {
		t.Errorf("appending to its lists made %v of %v", e, want)
	}
}

// spoil writes over all of it.
func spoil(e *api.Expr) {
	for i := range e.Args {
		spoil(&e.Args[i])
	}
	*e = api.Expr{Op: "spoilt", At: -1}
}

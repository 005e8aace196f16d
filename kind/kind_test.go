package kind_test

import (
	"math"
	"math/rand"
	"runtime/debug"
	"slices"
	"strings"
	"testing"

	"sluicebook/api"
	"sluicebook/kind"
	"sluicebook/plain"
	"sluicebook/row"
	"sluicebook/tree"
)

// operations are the Ops in the order of the chapter, each with all lists of types that it may be of, and behind `>` its own: i Int, b Bool, t Text.
var operations = []struct {
	op    string
	rules string
}{
	{"or", "bb>b"},
	{"and", "bb>b"},
	{"not", "b>b"},
	{"=", "ii>b bb>b tt>b"},
	{"<>", "ii>b bb>b tt>b"},
	{"<", "ii>b bb>b tt>b"},
	{"<=", "ii>b bb>b tt>b"},
	{">", "ii>b bb>b tt>b"},
	{">=", "ii>b bb>b tt>b"},
	{"+", "ii>i"},
	{"-", "ii>i"},
	{"*", "ii>i"},
	{"/", "ii>i"},
	{"%", "ii>i"},
	{"neg", "i>i"},
	{"len", "t>i"},
	{"if", "bii>i bbb>b btt>t"},
}

// letters tells types by their letters; ok: all are types.
func letters(types []int) (s string, ok bool) {
	for _, t := range types {
		if t < api.Int || t > api.Text {
			return "", false
		}
		s += string(" ibt"[t])
	}
	return s, true
}

// rule is what Rule is to answer, by the table above.
func rule(op string, types []int) (int, api.Errno) {
	at := slices.IndexFunc(operations, func(o struct{ op, rules string }) bool { return o.op == op })
	s, ok := letters(types)
	if at < 0 || !ok {
		return 0, api.ErrRange
	}
	told := api.ErrShape
	for _, r := range strings.Fields(operations[at].rules) {
		args, own, _ := strings.Cut(r, ">")
		if args == s {
			return strings.Index(" ibt", own), api.OK
		}
		if len(args) == len(s) {
			told = api.ErrType
		}
	}
	return 0, told
}

// lists are all lists of at most n of these numbers.
func lists(numbers []int, n int) [][]int {
	l := [][]int{nil}
	for from := 0; len(l[from]) < n; from++ {
		for _, t := range numbers {
			l = append(l, append(slices.Clone(l[from]), t))
		}
	}
	return l
}

// holdRule is of P1 too: nothing stands beside an error.
func holdRule(t *testing.T, op string, types []int, want int, told api.Errno) {
	t.Helper()
	if got, err := kind.Rule(op, types); got != want || plain.Told(err) != told {
		t.Errorf("Rule(%.50q, %.50v): %d, %v, want %d, %v", op, types, got, err, want, told)
	}
}

// TestRule is of Y1 and P3: each Op of each list of up to four types, right, of other types, and not as many.
func TestRule(t *testing.T) {
	right, ofType, shape := 0, 0, 0
	for _, o := range operations {
		for _, types := range lists([]int{api.Int, api.Bool, api.Text}, 4) {
			want, told := rule(o.op, types)
			holdRule(t, o.op, types, want, told)
			switch told {
			case api.OK:
				right++
			case api.ErrType:
				ofType++
			case api.ErrShape:
				shape++
			}
		}
	}
	// 6 comparisons and `if` have 3 each, the other 10 Ops 1; 13 are of two, 3 of one, 1 of three.
	if right != 31 || ofType != 13*9+3*3+27-31 || shape != 17*121-13*9-3*3-27 {
		t.Errorf("%d right, %d of other types, %d not as many", right, ofType, shape)
	}
}

// TestRuleNoType is of Y1 and P3: a number that is no type is ErrRange, wherever it stands, how many there are and whatever the others.
func TestRuleNoType(t *testing.T) {
	for _, o := range operations {
		for _, none := range []int{0, 4, 5, -1, -2, -3, 8, 256 + 1, 1<<32 + 2, math.MinInt, math.MinInt + 1, math.MaxInt} {
			for _, types := range lists([]int{none, api.Int, api.Bool, api.Text}, 4) {
				want, told := rule(o.op, types)
				if slices.Contains(types, none) && told != api.ErrRange {
					t.Fatalf("the test's own rule says %v of %v", told, types)
				}
				holdRule(t, o.op, types, want, told)
			}
		}
	}
}

// TestRuleNoOp is of Y1 and P3: what is no Op is ErrRange, whatever the types.
func TestRuleNoOp(t *testing.T) {
	none := []string{
		"", " ", "val", "col", "true", "false", "select", "as", "from", "where", "group", "by", "window", "slide", "count", "sum", "least", "most",
		"(", ")", ",", "==", "!=", "<<", "=<", "=>", "><", "&&", "||", "!", "**", "//", "negate", "-a", "zz", "int", "bool", "text",
		"\x00", "\xff", "\u00e9", "\uff0b", strings.Repeat("or", 100_000),
	}
	for _, o := range operations {
		none = append(none, o.op+" ", " "+o.op, o.op+"\x00", o.op+"z", o.op+o.op, "'"+o.op+"'")
		if o.op != strings.ToUpper(o.op) {
			none = append(none, strings.ToUpper(o.op), strings.ToUpper(o.op[:1])+o.op[1:], o.op[:len(o.op)-1], o.op[1:])
		}
	}
	for _, op := range none {
		for _, types := range lists([]int{api.Int, api.Bool, api.Text, 0}, 3) {
			holdRule(t, op, types, 0, api.ErrRange)
		}
	}
}

// TestRuleMany is of Y1 and P1: lists far longer than any Op has Args, and empty ones.
func TestRuleMany(t *testing.T) {
	for _, o := range operations {
		holdRule(t, o.op, nil, 0, api.ErrShape)
		holdRule(t, o.op, []int{}, 0, api.ErrShape)
		for _, n := range []int{5, 6, 7, 8, 16, 17, 100_000} {
			types := slices.Repeat([]int{api.Bool}, n)
			holdRule(t, o.op, types, 0, api.ErrShape)
			types[n-1] = 4
			holdRule(t, o.op, types, 0, api.ErrRange)
		}
	}
	holdRule(t, "nor", make([]int, 100_000), 0, api.ErrRange)
}

// TestCount is of Y1, P1 and P3: each Op has as many Args as its rules, and what is no Op has none.
func TestCount(t *testing.T) {
	for _, o := range operations {
		want := strings.Index(o.rules, ">")
		if got, err := kind.Count(o.op); got != want || err != nil {
			t.Errorf("Count(%q): %d, %v, want %d", o.op, got, err, want)
		}
	}
	for _, o := range []string{"", " ", "val", "col", "nor", "OR", "or ", "=<", "==", "ne", "\x00", strings.Repeat("or", 100_000)} {
		if got, err := kind.Count(o); got != 0 || plain.Told(err) != api.ErrRange {
			t.Errorf("Count(%.50q): %d, %v, want ErrRange", o, got, err)
		}
	}
}

// TestOps is of Y1: these 17, in this order, each of which has a rule, and is an Op of an expression.
func TestOps(t *testing.T) {
	holdOps(t)
	for _, o := range kind.Ops() {
		if _, err := kind.Rule(o, nil); plain.Told(err) != api.ErrShape {
			t.Errorf("Rule(%q) of nothing: %v, want ErrShape", o, err)
		}
		if err := tree.Check(api.Expr{Op: o}); plain.Told(err) != api.ErrShape {
			t.Errorf("Check of an expression %q of nothing: %v, want ErrShape", o, err)
		}
	}
}

func holdOps(t *testing.T) {
	t.Helper()
	want := []string{"or", "and", "not", "=", "<>", "<", "<=", ">", ">=", "+", "-", "*", "/", "%", "neg", "len", "if"}
	if got := kind.Ops(); !slices.Equal(got, want) {
		t.Errorf("Ops: %q, want %q", got, want)
	}
}

// TestOpsFresh is of P2: what Ops hands out is the caller's, to its whole capacity.
func TestOpsFresh(t *testing.T) {
	first, second := kind.Ops(), kind.Ops()
	first = first[:cap(first)]
	for i := range first {
		first[i] = "spoilt"
	}
	if slices.Contains(second[:cap(second)], "spoilt") {
		t.Errorf("what is written into one answer stands in another: %q", second)
	}
	holdOps(t)
	holdRule(t, "or", []int{api.Bool, api.Bool}, api.Bool, api.OK)
	holdRule(t, "spoilt", []int{api.Bool, api.Bool}, 0, api.ErrRange)
}

func number(n, at int) api.Expr {
	return api.Expr{Op: "val", Val: api.Val{Type: api.Int, N: n}, At: at}
}

func words(s string, at int) api.Expr {
	return api.Expr{Op: "val", Val: api.Val{Type: api.Text, S: s}, At: at}
}

func truth(n, at int) api.Expr {
	return api.Expr{Op: "val", Val: api.Val{Type: api.Bool, N: n}, At: at}
}

func col(name string, at int) api.Expr { return api.Expr{Op: "col", Name: name, At: at} }

func op(name string, at int, args ...api.Expr) api.Expr {
	return api.Expr{Op: name, Args: args, At: at}
}

// long is a text of so many bytes.
func long(n int) string { return strings.Repeat("z", n) }

// columns are as many as may be, two of each type, with names of one letter to eight, of which some are Ops.
func columns() []api.Col {
	return []api.Col{
		{Name: "i", Type: api.Int}, {Name: "col", Type: api.Text}, {Name: "b", Type: api.Bool},
		{Name: "neg", Type: api.Bool}, {Name: "t", Type: api.Text}, {Name: "abcdefgh", Type: api.Int},
	}
}

// holdOf is of P1 too: nothing stands beside a fault.
func holdOf(t *testing.T, e api.Expr, l []api.Col, want int, how api.Errno, at int) {
	t.Helper()
	if got, f := kind.Of(e, l); got != want || f != (api.Fault{How: how, At: at}) {
		t.Errorf("Of(%.300v, %.100v): %d, %v, want %d, %v at %d", e, l, got, f, want, how, at)
	}
}

// TestOfOne is of Y2: a value is of its type, whatever the columns; a column of its, whichever it is; whatever At.
func TestOfOne(t *testing.T) {
	for _, at := range []int{0, 1, 399, 400, -1, math.MinInt, math.MaxInt} {
		for _, l := range [][]api.Col{columns(), columns()[:1], columns()[3:4]} {
			holdOf(t, number(0, at), l, api.Int, api.OK, 0)
			holdOf(t, number(math.MaxInt, at), l, api.Int, api.OK, 0)
			holdOf(t, truth(0, at), l, api.Bool, api.OK, 0)
			holdOf(t, truth(1, at), l, api.Bool, api.OK, 0)
			holdOf(t, words("", at), l, api.Text, api.OK, 0)
			holdOf(t, words("i", at), l, api.Text, api.OK, 0)
			holdOf(t, words(long(40), at), l, api.Text, api.OK, 0)
		}
		for i, c := range columns() {
			holdOf(t, col(c.Name, at), columns(), c.Type, api.OK, 0)
			holdOf(t, col(c.Name, at), columns()[i:], c.Type, api.OK, 0)
			holdOf(t, col(c.Name, at), slices.Delete(columns(), i, i+1), 0, api.ErrNone, at)
		}
		for _, name := range []string{"a", "c", "ii", "co", "cols", "abcdefg", "bcdefgh", "val", "abcdefgi"} {
			holdOf(t, col(name, at), columns(), 0, api.ErrNone, at)
		}
	}
}

// TestOfOperations is of Y2: each operation of each choice of as many types, of values, of columns, and of operations.
func TestOfOperations(t *testing.T) {
	sources := [][]api.Expr{
		{number(7, 1), truth(1, 2), words("x", 3)},
		{col("i", 4), col("b", 5), col("t", 6)},
		{col("abcdefgh", 7), col("neg", 8), col("col", 9)},
		{op("len", 10, words("", 11)), op("=", 12, col("t", 13), words("", 14)), op("if", 15, col("b", 16), col("t", 17), col("col", 18))},
	}
	for _, o := range operations {
		for _, types := range lists([]int{api.Int, api.Bool, api.Text}, 3) {
			want, told := rule(o.op, types)
			if told == api.ErrShape {
				continue
			}
			for n := range len(sources) * len(sources) * len(sources) {
				e := op(o.op, 100+n)
				for _, u := range types {
					e.Args = append(e.Args, sources[n%len(sources)][u-1])
					n /= len(sources)
				}
				at := 0
				if told == api.ErrType {
					at = e.At
				}
				holdOf(t, e, columns(), want, told, at)
			}
		}
	}
}

// read are texts over the columns, and the type, or the fault and where.
var read = []struct {
	text string
	want int
	how  api.Errno
	at   int
}{
	{"i + abcdefgh * 2 - 1", api.Int, api.OK, 0},
	{"not i = 1 and b or neg", api.Bool, api.OK, 0},
	{"(b = (i < 2)) = (t <> 'x')", api.Bool, api.OK, 0},
	{"if(b, t, col)", api.Text, api.OK, 0},
	{"if(neg, if(b, 1, i), len(t) % 3)", api.Int, api.OK, 0},
	{"if(t = '', b, i > 0)", api.Bool, api.OK, 0},
	{"- - len(if(b, t, ''))", api.Int, api.OK, 0},
	{"((((i))))", api.Int, api.OK, 0},

	{"zz", 0, api.ErrNone, 0},
	{"  zz", 0, api.ErrNone, 2},
	{"i + zz", 0, api.ErrNone, 4},
	{"zz + yy", 0, api.ErrNone, 0},
	{"i + (2 * (zz - yy))", 0, api.ErrNone, 10},
	{"i + t", 0, api.ErrType, 2},
	{"not i", 0, api.ErrType, 0},
	{"b and i", 0, api.ErrType, 2},
	{"i and b", 0, api.ErrType, 2},
	{"i = b", 0, api.ErrType, 2},
	{"t < 1", 0, api.ErrType, 2},
	{"true >= 'x'", 0, api.ErrType, 5},
	{"- t", 0, api.ErrType, 0},
	{" - b", 0, api.ErrType, 1},
	{"len(i)", 0, api.ErrType, 0},
	{"1 + len(b)", 0, api.ErrType, 4},
	{"if(i, 1, 2)", 0, api.ErrType, 0},
	{"if(b, 1, '')", 0, api.ErrType, 0},
	{"if(b, t, i)", 0, api.ErrType, 0},
	{"i + if(b, t, i)", 0, api.ErrType, 4},

	// A node comes behind its Args, also where the first of them is of a wrong type already.
	{"t + zz", 0, api.ErrNone, 4},
	{"zz + t", 0, api.ErrNone, 0},
	{"1 and zz", 0, api.ErrNone, 6},
	{"not (1 + zz)", 0, api.ErrNone, 9},
	{"not (1 + t)", 0, api.ErrType, 7},
	{"len(len(len(1)))", 0, api.ErrType, 8},
	{"if(1, zz, 'a')", 0, api.ErrNone, 6},
	{"if(1, 2, zz)", 0, api.ErrNone, 9},
	{"if(1, 2 + t, 'a')", 0, api.ErrType, 8},
	{"i + (t + (b + zz))", 0, api.ErrNone, 14},
	{"i + (t + (b + 1))", 0, api.ErrType, 12},
	{"((zz + b) + t) + i", 0, api.ErrNone, 2},
	{"((1 + b) + t) + i", 0, api.ErrType, 4},

	// Of two nodes side by side the first, with all that is below it.
	{"(1 and 2) = zz", 0, api.ErrType, 3},
	{"zz = (1 and 2)", 0, api.ErrNone, 0},
	{"(t + 1) * zz", 0, api.ErrType, 3},
	{"(i + 1) * zz", 0, api.ErrNone, 10},
	{"len(1) + len(2)", 0, api.ErrType, 0},
	{"len(t) + len(2)", 0, api.ErrType, 9},
	{"len(1) + zz", 0, api.ErrType, 0},
	{"(not zz) + (1 + true)", 0, api.ErrNone, 5},
	{"(1 + true) + (not zz)", 0, api.ErrType, 3},
	{"if(b, 1 + t, zz)", 0, api.ErrType, 8},
	{"if(b, zz, 1 + t)", 0, api.ErrNone, 6},
	{"if(yy, zz, 1 + t)", 0, api.ErrNone, 3},
	{"if(not i, zz, 1 + t)", 0, api.ErrType, 3},
	{"b or zz and (1 or 2)", 0, api.ErrNone, 5},
	{"b or (1 or 2) and zz", 0, api.ErrType, 8},

	// What would not be reckoned is asked all the same.
	{"false and 1", 0, api.ErrType, 6},
	{"true or zz", 0, api.ErrNone, 8},
	{"if(true, 1, 'x')", 0, api.ErrType, 0},
	{"if(false, zz, 1)", 0, api.ErrNone, 10},
}

// TestOfTexts is of Y2: expressions as they are read, and of two faults in one the first, where each node comes behind its Args.
func TestOfTexts(t *testing.T) {
	for _, c := range read {
		e, f := tree.Parse(c.text)
		if f != (api.Fault{}) {
			t.Fatalf("Parse(%q): %v", c.text, f)
		}
		if got, f := kind.Of(e, columns()); got != c.want || f != (api.Fault{How: c.how, At: c.at}) {
			t.Errorf("Of %q: %d, %v, want %d, %v at %d", c.text, got, f, c.want, c.how, c.at)
		}
	}
}

// wrong are expressions and what chapter 4's Check says of them.
func wrong() []struct {
	e    api.Expr
	want api.Errno
} {
	return []struct {
		e    api.Expr
		want api.Errno
	}{
		{api.Expr{}, api.ErrSyntax},
		{api.Expr{At: 5}, api.ErrSyntax},
		{op("nor", 5, col("b", 6), col("b", 7)), api.ErrSyntax},
		{col("", 5), api.ErrSyntax},
		{col("or", 5), api.ErrSyntax},
		{col("sum", 5), api.ErrSyntax},
		{col("a1", 5), api.ErrSyntax},
		{col(long(9), 5), api.ErrSyntax},
		{words("\n", 5), api.ErrSyntax},
		{op("+", 5, col("i", 6)), api.ErrShape},
		{op("+", 5, col("i", 6), col("i", 7), col("i", 8)), api.ErrShape},
		{op("if", 5), api.ErrShape},
		{api.Expr{Op: "col", Name: "i", Args: []api.Expr{col("i", 6)}, At: 5}, api.ErrShape},
		{api.Expr{Op: "val", Name: "i", Val: api.Val{Type: api.Int}, At: 5}, api.ErrShape},
		{api.Expr{Op: "not", Val: api.Val{Type: api.Int}, Args: []api.Expr{col("b", 6)}, At: 5}, api.ErrShape},
		{api.Expr{Op: "val", Val: api.Val{Type: api.Int, S: "x"}, At: 5}, api.ErrShape},
		{api.Expr{Op: "val", At: 5}, api.ErrRange},
		{api.Expr{Op: "val", Val: api.Val{Type: 4}, At: 5}, api.ErrRange},
		{number(-1, 5), api.ErrRange},
		{truth(2, 5), api.ErrRange},
		{words(long(41), 5), api.ErrFull},
		{chain(31), api.ErrFull},
		{bush(201), api.ErrFull},

		// Ahead of all that is asked of the columns.
		{op("+", 5, col("zz", 6), number(-1, 7)), api.ErrRange},
		{op("+", 5, op("+", 6, truth(1, 7), words("", 8)), col("", 9)), api.ErrSyntax},
		{op("+", 5, col("zz", 6), op("not", 7)), api.ErrShape},
		{op("not", 5, bush(201)), api.ErrFull},
	}
}

// TestOfCheck is of Y2, P1 and P3: what Check says, at 0, also where it is not the first node that is wrong, and whatever the columns.
func TestOfCheck(t *testing.T) {
	for _, c := range wrong() {
		for _, l := range [][]api.Col{columns(), nil, {}, {{}}, make([]api.Col, 7), {{Name: "i", Type: 4}}, {{Name: "i", Type: 1}, {Name: "i", Type: 1}}} {
			holdOf(t, c.e, l, 0, c.want, 0)
			if c.want != api.ErrFull {
				holdOf(t, op("=", 3, col("zz", 4), c.e), l, 0, c.want, 0)
				holdOf(t, op("if", 3, number(1, 4), c.e, col("", 5)), l, 0, c.want, 0)
			}
		}
	}
}

// TestOfSchema is of Y2, P1 and P3: what Schema says of the columns, at 0, ahead of all that is asked of the expression over them.
func TestOfSchema(t *testing.T) {
	i := api.Col{Name: "i", Type: api.Int}
	for _, c := range []struct {
		l    []api.Col
		want api.Errno
	}{
		{nil, api.ErrNone},
		{[]api.Col{}, api.ErrNone},
		{append(columns(), api.Col{Name: "x", Type: api.Int}), api.ErrFull},
		{make([]api.Col, 7), api.ErrFull},
		{make([]api.Col, 100_000), api.ErrFull},
		{[]api.Col{{}}, api.ErrSyntax},
		{[]api.Col{i, {Name: "I", Type: api.Int}}, api.ErrSyntax},
		{[]api.Col{i, {Name: "a1", Type: api.Int}}, api.ErrSyntax},
		{[]api.Col{{Name: long(9), Type: api.Int}, i}, api.ErrSyntax},
		{[]api.Col{{Name: "i"}}, api.ErrRange},
		{[]api.Col{i, {Name: "j", Type: 4}}, api.ErrRange},
		{[]api.Col{i, {Name: "j", Type: -1}, {}}, api.ErrRange},
		{[]api.Col{i, i}, api.ErrClash},
		{[]api.Col{i, {Name: "j", Type: api.Bool}, {Name: "i", Type: api.Text}}, api.ErrClash},
	} {
		if err := row.Schema(c.l); plain.Told(err) != c.want {
			t.Errorf("Schema(%.100v): %v, want %v", c.l, err, c.want)
		}
		for _, e := range []api.Expr{number(1, 5), col("i", 5), col("zz", 5), op("not", 5, number(1, 6)), op("+", 5, col("zz", 6), truth(1, 7)), chain(30), bush(199)} {
			holdOf(t, e, c.l, 0, c.want, 0)
		}
	}
}

// TestOfWordColumns is of Y2: a schema may have words of the language as names, and the other columns are found beside them.
func TestOfWordColumns(t *testing.T) {
	l := []api.Col{{Name: "sum", Type: api.Text}, {Name: "or", Type: api.Text}, {Name: "i", Type: api.Int}, {Name: "true", Type: api.Int}}
	holdOf(t, col("i", 3), l, api.Int, api.OK, 0)
	holdOf(t, truth(1, 3), l, api.Bool, api.OK, 0)
	holdOf(t, col("or", 3), l, 0, api.ErrSyntax, 0)
	holdOf(t, col("su", 3), l, 0, api.ErrNone, 3)
}

// chain has n nodes below each other.
func chain(n int) api.Expr {
	e := col("i", n)
	for at := n - 1; at > 0; at-- {
		e = op("neg", at, e)
	}
	return e
}

// bush has n nodes, which must be odd, and is not deep.
func bush(n int) api.Expr {
	if n == 1 {
		return col("i", 1)
	}
	left := (n - 1) / 2
	if left%2 == 0 {
		left--
	}
	return op("+", n, bush(left), bush(n-1-left))
}

// TestOfGreat is of Y2: expressions as deep and as great as may be, right ones, and with a fault at the very end of them.
func TestOfGreat(t *testing.T) {
	holdOf(t, chain(30), columns(), api.Int, api.OK, 0)
	holdOf(t, op("not", 9, chain(29)), columns(), 0, api.ErrType, 9)
	holdOf(t, chain(30), []api.Col{{Name: "i", Type: api.Bool}}, 0, api.ErrType, 29)
	holdOf(t, chain(30), []api.Col{{Name: "j", Type: api.Int}}, 0, api.ErrNone, 30)
	holdOf(t, bush(199), columns(), api.Int, api.OK, 0)
	holdOf(t, op("neg", 9, bush(199)), columns(), api.Int, api.OK, 0)
	holdOf(t, op("not", 9, bush(199)), columns(), 0, api.ErrType, 9)
	holdOf(t, op("+", 9, bush(197), col("zz", 8)), columns(), 0, api.ErrNone, 8)
	holdOf(t, op("+", 9, bush(197), col("t", 8)), columns(), 0, api.ErrType, 9)
	holdOf(t, op("=", 9, bush(99), op("-", 8, bush(97), truth(1, 7))), columns(), 0, api.ErrType, 8)
}

// rulesTo are the rules by which something is of a type.
func rulesTo(of int) (l []struct{ op, args string }) {
	for _, o := range operations {
		for _, r := range strings.Fields(o.rules) {
			if args, own, _ := strings.Cut(r, ">"); own == string(" ibt"[of]) {
				l = append(l, struct{ op, args string }{o.op, args})
			}
		}
	}
	return l
}

// some is an expression by chance, at most so deep, and of that type, if nothing goes wrong; at whiles something does.
func some(r *rand.Rand, depth, of int, at *int) api.Expr {
	*at++
	e := api.Expr{At: *at}
	if r.Intn(30) == 0 {
		of = 1 + r.Intn(3)
	}
	switch {
	case depth > 1 && r.Intn(4) > 0:
		all := rulesTo(of)
		one := all[r.Intn(len(all))]
		e.Op = one.op
		for _, a := range one.args {
			e.Args = append(e.Args, some(r, depth-1, strings.IndexRune(" ibt", a), at))
		}
	case r.Intn(2) == 0:
		e.Op, e.Val = "val", []api.Val{{Type: api.Int, N: 7}, {Type: api.Bool, N: 1}, {Type: api.Text, S: "x"}}[of-1]
	case r.Intn(30) == 0:
		e.Op, e.Name = "col", "zz"
	default:
		e.Op, e.Name = "col", [][]string{{"i", "abcdefgh"}, {"b", "neg"}, {"t", "col"}}[of-1][r.Intn(2)]
	}
	return e
}

// behindArgs are the nodes, each behind its Args.
func behindArgs(e api.Expr) (l []api.Expr) {
	for _, a := range e.Args {
		l = append(l, behindArgs(a)...)
	}
	return append(l, e)
}

// reckoned is what Of is to answer: the nodes go one behind the other, and take off a stack what they are of.
func reckoned(e api.Expr, cols []api.Col) (int, api.Fault) {
	var stack []int
	for _, n := range behindArgs(e) {
		switch n.Op {
		case "val":
			stack = append(stack, n.Val.Type)
		case "col":
			at := slices.IndexFunc(cols, func(c api.Col) bool { return c.Name == n.Name })
			if at < 0 {
				return 0, api.Fault{How: api.ErrNone, At: n.At}
			}
			stack = append(stack, cols[at].Type)
		default:
			from := len(stack) - len(n.Args)
			own, told := rule(n.Op, stack[from:])
			if told != api.OK {
				return 0, api.Fault{How: told, At: n.At}
			}
			stack = append(stack[:from], own)
		}
	}
	return stack[0], api.Fault{}
}

// TestOfSome is of Y2: expressions by chance, held against a second way.
func TestOfSome(t *testing.T) {
	r := rand.New(rand.NewSource(1))
	times := map[api.Errno]int{}
	for range 10_000 {
		at := r.Intn(3) - 1
		e := some(r, 1+r.Intn(7), 1+r.Intn(3), &at)
		l := columns()
		r.Shuffle(len(l), func(i, j int) { l[i], l[j] = l[j], l[i] })
		l = l[:len(l)-max(0, r.Intn(20)-18)]
		want, f := reckoned(e, l)
		if len(behindArgs(e)) > 200 {
			want, f = 0, api.Fault{How: api.ErrFull}
		}
		times[f.How]++
		holdOf(t, e, l, want, f.How, f.At)
	}
	for _, how := range []api.Errno{api.OK, api.ErrNone, api.ErrType} {
		if times[how] < 1_000 {
			t.Errorf("only %d times %v", times[how], how)
		}
	}
}

// TestRuleAny is of P1: any op, of any numbers.
func TestRuleAny(t *testing.T) {
	r := rand.New(rand.NewSource(2))
	for range 100_000 {
		b := make([]byte, r.Intn(4))
		r.Read(b)
		name := string(b)
		if r.Intn(2) == 0 {
			name = operations[r.Intn(len(operations))].op
		}
		var types []int
		for range r.Intn(6) {
			types = append(types, []int{1, 2, 3, r.Intn(9) - 4, int(r.Uint64())}[r.Intn(5)])
		}
		want, told := rule(name, types)
		holdRule(t, name, types, want, told)
	}
}

// TestEndless is of P1: what is far too great, or stands within itself, or lies deeper than calls could go, is too great, at 0.
func TestEndless(t *testing.T) {
	// Calls as deep as this would need far more.
	defer debug.SetMaxStack(debug.SetMaxStack(8 << 20))
	doubled := col("i", 5)
	for range 100 {
		doubled = op("+", 6, doubled, doubled)
	}
	own := make([]api.Expr, 1)
	own[0] = op("neg", 5, own...)
	both := make([]api.Expr, 2)
	both[0], both[1] = col("i", 5), op("+", 6, both...)
	for i, e := range []api.Expr{doubled, own[0], both[1], chain(500_000), {Op: "if", Args: make([]api.Expr, 100_000), At: 5}} {
		if got, f := kind.Of(e, columns()); got != 0 || f != (api.Fault{How: api.ErrFull}) {
			t.Errorf("Of endless %d: %d, %v, want ErrFull at 0", i, got, f)
		}
	}
}

// roomy has room behind each of its lists, and something in it.
func roomy(e api.Expr) api.Expr {
	args := make([]api.Expr, len(e.Args), len(e.Args)+2)
	for i, a := range e.Args {
		args[i] = roomy(a)
	}
	for i := range 2 {
		args[:cap(args)][len(args)+i] = col("behind", i)
	}
	e.Args = args
	return e
}

// behind tells whether all that roomy laid is as it was.
func behind(e api.Expr) bool {
	so := slices.EqualFunc(e.Args[len(e.Args):cap(e.Args)], []api.Expr{col("behind", 0), col("behind", 1)}, alike)
	for _, a := range e.Args {
		so = so && behind(a)
	}
	return so
}

// alike tells whether two are the same, At and all.
func alike(a, b api.Expr) bool {
	return a.Op == b.Op && a.Name == b.Name && a.Val == b.Val && a.At == b.At && slices.EqualFunc(a.Args, b.Args, alike)
}

// TestListsStay is of P2 and P4: what is handed in stays as it is, and what lies behind its length is neither read nor written.
func TestListsStay(t *testing.T) {
	var l []api.Expr
	for _, c := range read {
		e, _ := tree.Parse(c.text)
		l = append(l, e)
	}
	for _, c := range wrong() {
		l = append(l, c.e)
	}
	l = append(l, col("behind", 3), chain(30), bush(199))
	for _, e := range l {
		for n := range len(columns()) + 1 {
			handed, cols := roomy(e), columns()
			want, f := kind.Of(e, slices.Clone(cols[:n]))
			holdOf(t, handed, cols[:n], want, f.How, f.At)
			if !alike(handed, e) || !behind(handed) || !slices.Equal(cols, columns()) {
				t.Errorf("%.300v or its columns were written into", e)
			}
		}
	}
}

// TestTypesStay is of P2 and P4: so it is with the types that Rule is given.
func TestTypesStay(t *testing.T) {
	for _, o := range append(kind.Ops(), "nor") {
		for _, types := range lists([]int{1, 2, 3, 0}, 4) {
			for _, more := range [][]int{{2, 2}, {1, 1}, {9, 9}} {
				handed := append(slices.Clone(types), more...)
				want, told := rule(o, types)
				holdRule(t, o, handed[:len(types)], want, told)
				if !slices.Equal(handed, append(slices.Clone(types), more...)) {
					t.Errorf("Rule(%q) made %v of %v and %v", o, handed, types, more)
				}
			}
		}
	}
}

// TestNothingKept is of P2: what is done afterwards with what was handed in changes no later answer.
func TestNothingKept(t *testing.T) {
	e, l, types := op("+", 1, col("i", 2), col("abcdefgh", 3)), columns(), []int{api.Int, api.Int}
	holdOf(t, e, l, api.Int, api.OK, 0)
	holdRule(t, "+", types, api.Int, api.OK)
	e.Args[0], l[0].Type, types[0] = truth(1, 0), api.Text, api.Bool
	holdOf(t, e, l, 0, api.ErrType, 1)
	holdOf(t, col("i", 0), l, api.Text, api.OK, 0)
	holdOf(t, op("+", 1, col("i", 2), col("abcdefgh", 3)), columns(), api.Int, api.OK, 0)
	holdRule(t, "+", types, 0, api.ErrType)
	holdRule(t, "+", []int{api.Int, api.Int}, api.Int, api.OK)
}

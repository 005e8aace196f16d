package eval_test

import (
	"fmt"
	"math"
	"math/big"
	"math/rand"
	"runtime/debug"
	"slices"
	"strings"
	"testing"

	"sluicebook/api"
	"sluicebook/eval"
	"sluicebook/kind"
	"sluicebook/plain"
	"sluicebook/row"
	"sluicebook/tree"
	"sluicebook/val"
)

func number(n int) api.Val   { return api.Val{Type: api.Int, N: n} }
func truth(n int) api.Val    { return api.Val{Type: api.Bool, N: n} }
func words(s string) api.Val { return api.Val{Type: api.Text, S: s} }

// long is a text of so many bytes.
func long(n int) string { return strings.Repeat("z", n) }

// rising are values of each type, each ahead of those behind it.
var rising = [][]api.Val{
	{
		number(math.MinInt), number(math.MinInt + 1), number(-1 << 62), number(-3_037_000_500), number(-1 << 31), number(-7), number(-2), number(-1), number(0),
		number(1), number(2), number(3), number(7), number(1 << 31), number(3_037_000_499), number(3_037_000_500), number(1 << 62), number(math.MaxInt - 1), number(math.MaxInt),
	},
	{truth(0), truth(1)},
	{
		words(""), words(" "), words("  "), words("'"), words("''"), words("-1"), words("0"), words("10"), words("9"), words("A"), words("Z"), words("a"), words("a "), words("aa"), words("ab"),
		words("b"), words("it's"), words(long(39) + "a"), words(long(40)), words("~"), words(strings.Repeat("~", 40)),
	},
}

// every are all of these.
func every() []api.Val { return slices.Concat(rising...) }

// brief is the beginning of what is told of something, which may be very great.
func brief(a any) string { return fmt.Sprintf("%.300q", fmt.Sprint(a)) }

// holdDo is of P1 too: nothing stands beside an error.
func holdDo(t *testing.T, op string, args []api.Val, want api.Val, told api.Errno) {
	t.Helper()
	if got, err := eval.Do(op, args); got != want || plain.Told(err) != told {
		t.Errorf("Do(%.50q, %s): %v, %v, want %v, %v", op, brief(args), got, err, want, told)
	}
}

// TestDoBools is of E1: `or`, `and`, `not` of false and true.
func TestDoBools(t *testing.T) {
	for _, c := range []struct{ a, b, or, and int }{{0, 0, 0, 0}, {0, 1, 1, 0}, {1, 0, 1, 0}, {1, 1, 1, 1}} {
		holdDo(t, "or", []api.Val{truth(c.a), truth(c.b)}, truth(c.or), api.OK)
		holdDo(t, "and", []api.Val{truth(c.a), truth(c.b)}, truth(c.and), api.OK)
	}
	holdDo(t, "not", []api.Val{truth(0)}, truth(1), api.OK)
	holdDo(t, "not", []api.Val{truth(1)}, truth(0), api.OK)
}

// TestDoComparisons is of E1: each comparison of each two values of a type, by where they stand among the rising ones.
func TestDoComparisons(t *testing.T) {
	// Whether it is so where the first is ahead, where both are the same, where the second is ahead.
	so := map[string][3]int{"=": {0, 1, 0}, "<>": {1, 0, 1}, "<": {1, 0, 0}, "<=": {1, 1, 0}, ">": {0, 0, 1}, ">=": {0, 1, 1}}
	for _, l := range rising {
		for i, a := range l {
			for j, b := range l {
				order := 1
				if i < j {
					order = 0
				} else if i > j {
					order = 2
				}
				for op, is := range so {
					holdDo(t, op, []api.Val{a, b}, truth(is[order]), api.OK)
				}
			}
		}
	}
}

// great reckons with numbers of any size; nil: there is no quotient.
func great(op string, a, b int) *big.Int {
	x, y := big.NewInt(int64(a)), big.NewInt(int64(b))
	switch {
	case op == "+":
		return x.Add(x, y)
	case op == "-":
		return x.Sub(x, y)
	case op == "*":
		return x.Mul(x, y)
	case b == 0:
		return nil
	case op == "/":
		return x.Quo(x, y)
	}
	return x.Rem(x, y)
}

// fits is the number as a value, or ErrOver.
func fits(n *big.Int) (api.Val, api.Errno) {
	if n == nil || !n.IsInt64() {
		return api.Val{}, api.ErrOver
	}
	return number(int(n.Int64())), api.OK
}

// TestDoNumbers is of E1 and P1: `+` to `%` and `neg`, at the ends of Int and by 0 too.
func TestDoNumbers(t *testing.T) {
	over := 0
	for _, a := range rising[0] {
		want, told := fits(great("-", 0, a.N))
		holdDo(t, "neg", []api.Val{a}, want, told)
		for _, b := range rising[0] {
			for _, op := range []string{"+", "-", "*", "/", "%"} {
				want, told := fits(great(op, a.N, b.N))
				holdDo(t, op, []api.Val{a, b}, want, told)
				if told == api.ErrOver {
					over++
				}
			}
		}
	}
	if over < 100 {
		t.Errorf("only %d go over", over)
	}
}

// TestDoEnds is of E1: the edges of it, written out.
func TestDoEnds(t *testing.T) {
	for _, c := range []struct {
		op   string
		a, b int
		want int
		told api.Errno
	}{
		{"+", math.MaxInt, 1, 0, api.ErrOver},
		{"+", math.MaxInt - 1, 1, math.MaxInt, api.OK},
		{"+", math.MinInt, -1, 0, api.ErrOver},
		{"-", math.MinInt, 1, 0, api.ErrOver},
		{"-", math.MinInt + 1, 1, math.MinInt, api.OK},
		{"-", 0, math.MinInt, 0, api.ErrOver},
		{"-", -1, math.MinInt, math.MaxInt, api.OK},
		{"-", 5, 7, -2, api.OK},
		{"*", math.MinInt, -1, 0, api.ErrOver},
		{"*", -1, math.MinInt, 0, api.ErrOver},
		{"*", 3_037_000_500, 3_037_000_500, 0, api.ErrOver},
		{"*", 3_037_000_499, 3_037_000_499, 9_223_372_030_926_249_001, api.OK},
		{"/", math.MinInt, -1, 0, api.ErrOver},
		{"/", 1, 0, 0, api.ErrOver},
		{"/", 0, 0, 0, api.ErrOver},
		{"/", -7, 2, -3, api.OK},
		{"/", 7, -2, -3, api.OK},
		{"%", math.MinInt, -1, 0, api.OK},
		{"%", 1, 0, 0, api.ErrOver},
		{"%", -7, 2, -1, api.OK},
		{"%", 7, -2, 1, api.OK},
	} {
		want := api.Val{}
		if c.told == api.OK {
			want = number(c.want)
		}
		holdDo(t, c.op, []api.Val{number(c.a), number(c.b)}, want, c.told)
	}
	holdDo(t, "neg", []api.Val{number(math.MinInt)}, api.Val{}, api.ErrOver)
	holdDo(t, "neg", []api.Val{number(math.MaxInt)}, number(-math.MaxInt), api.OK)
	holdDo(t, "neg", []api.Val{number(math.MinInt + 1)}, number(math.MaxInt), api.OK)
	holdDo(t, "neg", []api.Val{number(0)}, number(0), api.OK)
}

// TestDoLen is of E1: how many bytes, from none to as many as may be; a quote is one.
func TestDoLen(t *testing.T) {
	for n := range 41 {
		holdDo(t, "len", []api.Val{words(long(n))}, number(n), api.OK)
		holdDo(t, "len", []api.Val{words(strings.Repeat("'", n))}, number(n), api.OK)
		holdDo(t, "len", []api.Val{words(strings.Repeat(" ", n))}, number(n), api.OK)
	}
}

// TestDoIf is of E1: the second, or the third, whichever they are.
func TestDoIf(t *testing.T) {
	for _, l := range rising {
		for _, a := range l {
			for _, b := range l {
				holdDo(t, "if", []api.Val{truth(1), a, b}, a, api.OK)
				holdDo(t, "if", []api.Val{truth(0), a, b}, b, api.OK)
			}
		}
	}
}

// wrongs are values and what chapter 1's Check says of them.
var wrongs = []struct {
	v    api.Val
	want api.Errno
}{
	{api.Val{}, api.ErrRange},
	{api.Val{Type: 4}, api.ErrRange},
	{api.Val{Type: -1, N: 1, S: "x"}, api.ErrRange},
	{api.Val{Type: math.MinInt}, api.ErrRange},
	{api.Val{Type: math.MaxInt}, api.ErrRange},
	{truth(2), api.ErrRange},
	{truth(-1), api.ErrRange},
	{truth(math.MinInt), api.ErrRange},
	{words(long(41)), api.ErrFull},
	{words(strings.Repeat("\n", 100_000)), api.ErrFull},
	{words("\n"), api.ErrSyntax},
	{words("a\x7f"), api.ErrSyntax},
	{words("\u00e9"), api.ErrSyntax},
	{api.Val{Type: api.Text, N: 1, S: "\x00"}, api.ErrSyntax},
	{api.Val{Type: api.Text, N: 1}, api.ErrShape},
	{api.Val{Type: api.Int, S: "x"}, api.ErrShape},
	{api.Val{Type: api.Bool, N: 1, S: "x"}, api.ErrShape},
}

// TestWrongs is of the list above: it is what Check says.
func TestWrongs(t *testing.T) {
	for _, c := range wrongs {
		if err := val.Check(c.v); plain.Told(err) != c.want {
			t.Errorf("Check(%s): %v, want %v", brief(c.v), err, c.want)
		}
	}
}

// TestDoCheck is of E1 and P3: what Check says of the first value that is wrong, ahead of all that Rule says: of the op, of how many there are, of their types.
func TestDoCheck(t *testing.T) {
	for _, op := range append(kind.Ops(), "", "nor", "val", "col") {
		for i, c := range wrongs {
			holdDo(t, op, []api.Val{c.v}, api.Val{}, c.want)
			holdDo(t, op, []api.Val{c.v, c.v, c.v, c.v}, api.Val{}, c.want)
			for _, v := range []api.Val{number(0), truth(1), words("")} {
				holdDo(t, op, []api.Val{v, c.v}, api.Val{}, c.want)
				holdDo(t, op, []api.Val{c.v, v}, api.Val{}, c.want)
				holdDo(t, op, []api.Val{v, v, c.v}, api.Val{}, c.want)
				holdDo(t, op, []api.Val{truth(1), v, c.v}, api.Val{}, c.want)
				holdDo(t, op, []api.Val{truth(0), c.v, v}, api.Val{}, c.want)
				holdDo(t, op, []api.Val{v, v, v, v, c.v}, api.Val{}, c.want)
			}
			for _, other := range wrongs[i:] {
				holdDo(t, op, []api.Val{c.v, other.v}, api.Val{}, c.want)
				holdDo(t, op, []api.Val{other.v, c.v}, api.Val{}, other.want)
				holdDo(t, op, []api.Val{truth(1), c.v, other.v}, api.Val{}, c.want)
				holdDo(t, op, []api.Val{truth(0), other.v, c.v}, api.Val{}, other.want)
			}
		}
	}
}

// TestDoRule is of E1 and P3: what Rule says of the types of right values, of any op, and of too few, too many and other ones.
func TestDoRule(t *testing.T) {
	some := []api.Val{number(7), truth(1), words("x")}
	lists := [][]api.Val{nil}
	for from := 0; len(lists[from]) < 4; from++ {
		for _, v := range some {
			lists = append(lists, append(slices.Clone(lists[from]), v))
		}
	}
	right := 0
	for _, op := range append(kind.Ops(), "", "nor", "val", "col", "OR", "len ", "==", "\xff", long(100_000)) {
		for _, args := range lists {
			var types []int
			for _, v := range args {
				types = append(types, v.Type)
			}
			own, err := kind.Rule(op, types)
			if err != nil {
				holdDo(t, op, args, api.Val{}, plain.Told(err))
				continue
			}
			right++
			if got, err := eval.Do(op, args); err != nil || got.Type != own || val.Check(got) != nil {
				t.Errorf("Do(%q, %v): %v, %v, want a value of type %d", op, args, got, err, own)
			}
		}
	}
	if right != 31 {
		t.Errorf("%d lists are right", right)
	}
}

// TestDoFirst is of E1 and P3: of two things that are wrong the one that is named first, written out.
func TestDoFirst(t *testing.T) {
	for _, c := range []struct {
		op   string
		args []api.Val
		want api.Errno
	}{
		{"or", nil, api.ErrShape},
		{"nor", nil, api.ErrRange},
		{"nor", []api.Val{words("\n")}, api.ErrSyntax},
		{"nor", []api.Val{number(1), words(long(41))}, api.ErrFull},
		{"/", []api.Val{number(1), number(0), number(0)}, api.ErrShape},
		{"/", []api.Val{number(1)}, api.ErrShape},
		{"/", []api.Val{number(1), truth(0)}, api.ErrType},
		{"/", []api.Val{words(""), number(0)}, api.ErrType},
		{"%", []api.Val{number(0), {Type: api.Int, S: "0"}}, api.ErrShape},
		{"%", []api.Val{number(0), {}}, api.ErrRange},
		{"neg", []api.Val{number(math.MinInt), number(0)}, api.ErrShape},
		{"neg", []api.Val{{Type: api.Int, N: math.MinInt, S: "\n"}}, api.ErrShape},
		{"if", []api.Val{truth(1), number(1), words("")}, api.ErrType},
		{"if", []api.Val{number(1), words(""), words("")}, api.ErrType},
		{"if", []api.Val{number(1), number(1), truth(2)}, api.ErrRange},
		{"and", []api.Val{truth(0), number(0)}, api.ErrType},
		{"or", []api.Val{truth(1), words("x")}, api.ErrType},
		{"and", []api.Val{truth(0), truth(2)}, api.ErrRange},
		{"=", []api.Val{number(0), truth(0)}, api.ErrType},
		{"<>", []api.Val{words(""), number(0)}, api.ErrType},
		{"len", []api.Val{number(0)}, api.ErrType},
		{"len", []api.Val{words(""), words("")}, api.ErrShape},
	} {
		holdDo(t, c.op, c.args, api.Val{}, c.want)
	}
}

// does is what Do is to answer of values that are right, and of types that the op may have.
func does(op string, args []api.Val) (api.Val, api.Errno) {
	a, b := args[0], args[len(args)-1]
	order := strings.Compare(a.S, b.S)
	if a.Type != api.Text {
		order = big.NewInt(int64(a.N)).Cmp(big.NewInt(int64(b.N)))
	}
	is := map[string]bool{
		"or": a.N+b.N > 0, "and": a.N*b.N > 0, "not": a.N == 0,
		"=": order == 0, "<>": order != 0, "<": order == -1, "<=": order != 1, ">": order == 1, ">=": order != -1,
	}
	if so, ok := is[op]; ok {
		if so {
			return truth(1), api.OK
		}
		return truth(0), api.OK
	}
	switch op {
	case "neg":
		return fits(great("-", 0, a.N))
	case "len":
		return number(len(a.S)), api.OK
	case "if":
		return args[2-a.N], api.OK
	}
	return fits(great(op, a.N, b.N))
}

// answer is what Do is to answer of anything.
func answer(op string, args []api.Val) (api.Val, api.Errno) {
	var types []int
	for _, v := range args {
		if err := val.Check(v); err != nil {
			return api.Val{}, plain.Told(err)
		}
		types = append(types, v.Type)
	}
	if _, err := kind.Rule(op, types); err != nil {
		return api.Val{}, plain.Told(err)
	}
	return does(op, args)
}

// anyVal is a value by chance, mostly a right one.
func anyVal(r *rand.Rand) api.Val {
	switch r.Intn(30) {
	case 0:
		return wrongs[r.Intn(len(wrongs))].v
	case 1:
		b := make([]byte, r.Intn(50))
		r.Read(b)
		return api.Val{Type: r.Intn(6) - 1, N: r.Intn(4) - 1, S: string(b)}
	case 2, 3:
		return number(int(r.Uint64()))
	}
	l := rising[r.Intn(3)]
	return l[r.Intn(len(l))]
}

// TestDoAny is of E1 and P1: any op, of any values, held against a second way.
func TestDoAny(t *testing.T) {
	r := rand.New(rand.NewSource(1))
	times := map[api.Errno]int{}
	ops := kind.Ops()
	for range 200_000 {
		op := ops[r.Intn(len(ops))]
		if r.Intn(20) == 0 {
			b := make([]byte, r.Intn(4))
			r.Read(b)
			op = string(b)
		}
		var args []api.Val
		for range []int{1, 2, 2, 2, 3, r.Intn(6)}[r.Intn(6)] {
			args = append(args, anyVal(r))
		}
		want, told := answer(op, args)
		times[told]++
		holdDo(t, op, args, want, told)
	}
	for _, told := range []api.Errno{api.OK, api.ErrRange, api.ErrSyntax, api.ErrShape, api.ErrFull, api.ErrType, api.ErrOver} {
		if times[told] < 500 {
			t.Errorf("only %d times %v", times[told], told)
		}
	}
}

// TestDoMany is of P1: lists far longer than any op has Args.
func TestDoMany(t *testing.T) {
	for _, op := range kind.Ops() {
		args := slices.Repeat([]api.Val{truth(1)}, 100_000)
		holdDo(t, op, args, api.Val{}, api.ErrShape)
		args[len(args)-1] = words("\n")
		holdDo(t, op, args, api.Val{}, api.ErrSyntax)
	}
}

func col(name string) api.Expr { return api.Expr{Op: "col", Name: name} }

func is(v api.Val) api.Expr { return api.Expr{Op: "val", Val: v} }

func op(name string, args ...api.Expr) api.Expr { return api.Expr{Op: name, Args: args, At: 5} }

// read is the expression of a text, which must be one.
func read(t *testing.T, text string) api.Expr {
	t.Helper()
	e, f := tree.Parse(text)
	if f != (api.Fault{}) {
		t.Fatalf("Parse(%q): %v", text, f)
	}
	return e
}

// columns are as many as may be, two of each type, of which some have names of Ops.
func columns() []api.Col {
	return []api.Col{
		{Name: "i", Type: api.Int}, {Name: "col", Type: api.Text}, {Name: "b", Type: api.Bool},
		{Name: "neg", Type: api.Bool}, {Name: "t", Type: api.Text}, {Name: "abcdefgh", Type: api.Int},
	}
}

// values are a row of those columns.
func values() []api.Val {
	return []api.Val{number(-7), words(""), truth(1), truth(0), words("it's"), number(3)}
}

// holdEval is of P1 too: nothing stands beside an error.
func holdEval(t *testing.T, e api.Expr, l []api.Col, r []api.Val, want api.Val, told api.Errno) {
	t.Helper()
	if got, err := eval.Eval(e, l, r); got != want || plain.Told(err) != told {
		t.Errorf("Eval(%s, %s, %s): %v, %v, want %v, %v", brief(e), brief(l), brief(r), got, err, want, told)
	}
}

// TestEvalOne is of E1: a value is itself, whatever the row; a column is its value, whichever it is and wherever it stands.
func TestEvalOne(t *testing.T) {
	for _, v := range every() {
		if v.Type == api.Int && v.N < 0 {
			holdEval(t, is(v), columns(), values(), api.Val{}, api.ErrRange)
			continue
		}
		holdEval(t, is(v), columns(), values(), v, api.OK)
		holdEval(t, is(v), columns()[1:2], values()[1:2], v, api.OK)
	}
	for i, c := range columns() {
		holdEval(t, col(c.Name), columns(), values(), values()[i], api.OK)
		holdEval(t, col(c.Name), columns()[i:], values()[i:], values()[i], api.OK)
		holdEval(t, col(c.Name), columns()[:i+1], values()[:i+1], values()[i], api.OK)
		holdEval(t, col(c.Name), slices.Delete(columns(), i, i+1), slices.Delete(values(), i, i+1), api.Val{}, api.ErrNone)
		for _, v := range rising[c.Type-1] {
			r := values()
			r[i] = v
			holdEval(t, col(c.Name), columns(), r, v, api.OK)
		}
	}
}

// countOf is how many Args an op has.
func countOf(op string) int {
	switch op {
	case "not", "neg", "len":
		return 1
	case "if":
		return 3
	}
	return 2
}

// choices are all lists of n of these values.
func choices(l []api.Val, n int) [][]api.Val {
	if n == 0 {
		return [][]api.Val{nil}
	}
	var all [][]api.Val
	for _, ahead := range choices(l, n-1) {
		for _, v := range l {
			all = append(all, append(slices.Clone(ahead), v))
		}
	}
	return all
}

// TestEvalOperations is of E1: each operation of columns, whatever their values, comes to what Do says.
func TestEvalOperations(t *testing.T) {
	few := []api.Val{
		number(math.MinInt), number(-3), number(-1), number(0), number(2), number(math.MaxInt),
		truth(0), truth(1), words(""), words("a"), words("b"), words(long(40)),
	}
	times := map[api.Errno]int{}
	for _, o := range kind.Ops() {
		for _, args := range choices(few, countOf(o)) {
			var l []api.Col
			e := op(o)
			for i, v := range args {
				l = append(l, api.Col{Name: string("xyz"[i]), Type: v.Type})
				e.Args = append(e.Args, col(l[i].Name))
			}
			want, told := answer(o, args)
			times[told]++
			holdEval(t, e, l, args, want, told)
			holdDo(t, o, args, want, told)
		}
	}
	if times[api.OK] < 500 || times[api.ErrType] < 500 || times[api.ErrOver] < 10 {
		t.Errorf("there were %v", times)
	}
}

// texts are expressions over the columns, and what they come to of the row above, as chapter 1 prints it, or which error.
var texts = []struct {
	text, want string
}{
	{"i", "-7"},
	{"((((t))))", "'it''s'"},
	{"i + abcdefgh * 2 - 1", "-2"},
	{"i - abcdefgh - 1", "-11"},
	{"i / 2 * 2", "-6"},
	{"i % abcdefgh", "-1"},
	{"i / abcdefgh", "-2"},
	{"- i", "7"},
	{"- - i", "-7"},
	{"- abcdefgh % 2", "-1"},
	{"len(t)", "4"},
	{"len(col)", "0"},
	{"len(t) + len(col) + len('a''b')", "7"},
	{"b", "true"},
	{"neg", "false"},
	{"not b", "false"},
	{"not neg", "true"},
	{"b or neg", "true"},
	{"neg or b", "true"},
	{"neg or neg", "false"},
	{"b and neg", "false"},
	{"neg and b", "false"},
	{"b and b", "true"},
	{"i < abcdefgh", "true"},
	{"i >= abcdefgh", "false"},
	{"col < t", "true"},
	{"t = 'it''s'", "true"},
	{"t <> 'it''s'", "false"},
	{"neg < b", "true"},
	{"neg = (b = neg)", "true"},
	{"not i = 0 and t <> col or neg", "true"},
	{"if(b, t, col)", "'it''s'"},
	{"if(neg, t, col)", "''"},
	{"if(b, i, abcdefgh)", "-7"},
	{"if(neg, i, abcdefgh)", "3"},
	{"if(b, neg, b)", "false"},
	{"if(if(b, neg, b), 1, if(neg, 2, 3))", "3"},
	{"if(i < 0, - i, i) * 2", "14"},
	{"9223372036854775807", "9223372036854775807"},
	{"- 9223372036854775807 - 1", "-9223372036854775808"},
	{"(- 9223372036854775807 - 1) % (- 1)", "0"},

	{"1 / 0", "ErrOver"},
	{"i % 0", "ErrOver"},
	{"9223372036854775807 + 1", "ErrOver"},
	{"- (- 9223372036854775807 - 1)", "ErrOver"},
	{"(- 9223372036854775807 - 1) / (- 1)", "ErrOver"},
	{"9223372036854775807 * 2 / 2", "ErrOver"},
	{"0 * (1 / 0)", "ErrOver"},
	{"1 / 0 = 1 / 0", "ErrOver"},
	{"not 1 / 0 = 1", "ErrOver"},
	{"len(if(1 / 0 = 1, t, col))", "ErrOver"},
	{"- (1 / 0)", "ErrOver"},

	// What is not needed is not reckoned, and what goes over there is not told.
	{"false and 1 / 0 = 1", "false"},
	{"neg and i % 0 = 1", "false"},
	{"true or 1 / 0 = 1", "true"},
	{"b or i % 0 = 1", "true"},
	{"if(true, 1, 1 / 0)", "1"},
	{"if(false, 1 / 0, 2)", "2"},
	{"if(b, t, if(1 / 0 = 1, t, col))", "'it''s'"},
	{"if(neg, 1 / 0, if(b, i, 1 / 0))", "-7"},
	{"neg and (neg and 1 / 0 = 1)", "false"},
	{"neg and 1 / 0 = 1 and 1 % 0 = 1", "false"},
	{"b or 1 / 0 = 1 or 1 % 0 = 1", "true"},
	{"b or 1 / 0 = 1 and 1 % 0 = 1", "true"},
	{"(b or 1 / 0 = 1) and (neg and 1 / 0 = 1 or b)", "true"},
	{"not (neg and 1 / 0 = 1)", "true"},
	{"(neg and 1 / 0 = 1) = neg", "true"},
	{"1 + if(i <> 0, abcdefgh / i, 1 / 0)", "1"},
	{"if(neg and 1 / 0 = 1, 1 / 0, 4)", "4"},

	// What is needed is, also where it would come to the same whichever it was.
	{"true and 1 / 0 = 1", "ErrOver"},
	{"false or 1 / 0 = 1", "ErrOver"},
	{"1 / 0 = 1 and false", "ErrOver"},
	{"1 / 0 = 1 or true", "ErrOver"},
	{"1 / 0 = 1 and neg", "ErrOver"},
	{"1 / 0 = 1 or b", "ErrOver"},
	{"b and 1 / 0 = 1 and neg", "ErrOver"},
	{"neg or 1 / 0 = 1 or b", "ErrOver"},
	{"if(1 / 0 = 1, 2, 2)", "ErrOver"},
	{"if(true, 1 / 0, 1)", "ErrOver"},
	{"if(false, 1, 1 / 0)", "ErrOver"},
	{"if(b, 1 / 0, 1)", "ErrOver"},
	{"neg = (1 / 0 = 1)", "ErrOver"},
	{"0 * i * (1 / 0)", "ErrOver"},
	{"if(b, 1, 2) + if(neg, 1, 1 / 0)", "ErrOver"},
}

// TestEvalTexts is of E1: expressions as they are read, what they come to, and what is not reckoned.
func TestEvalTexts(t *testing.T) {
	for _, c := range texts {
		want, told := api.Val{}, api.ErrOver
		if c.want != "ErrOver" {
			v, err := val.Parse(c.want)
			if err != nil {
				t.Fatalf("Parse(%q): %v", c.want, err)
			}
			want, told = v, api.OK
		}
		if got, err := eval.Eval(read(t, c.text), columns(), values()); got != want || plain.Told(err) != told {
			t.Errorf("Eval of %q: %v, %v, want %s", c.text, got, err, c.want)
		}
	}
}

// faulty are expressions and what chapter 5's Of tells of them over the columns.
func faulty() []struct {
	e    api.Expr
	want api.Errno
} {
	return []struct {
		e    api.Expr
		want api.Errno
	}{
		{api.Expr{}, api.ErrSyntax},
		{op("nor", col("b"), col("b")), api.ErrSyntax},
		{col("or"), api.ErrSyntax},
		{col("a1"), api.ErrSyntax},
		{is(words("\n")), api.ErrSyntax},
		{op("+", col("i")), api.ErrShape},
		{op("+", col("i"), col("i"), col("i")), api.ErrShape},
		{op("if"), api.ErrShape},
		{api.Expr{Op: "col", Name: "i", Val: number(1)}, api.ErrShape},
		{is(api.Val{}), api.ErrRange},
		{is(number(-1)), api.ErrRange},
		{is(truth(2)), api.ErrRange},
		{is(words(long(41))), api.ErrFull},
		{chain(31), api.ErrFull},
		{bush(201), api.ErrFull},
		{col("zz"), api.ErrNone},
		{op("not", col("i")), api.ErrType},
		{op("+", col("i"), col("t")), api.ErrType},

		// Of all nodes, also of those that are not needed, and ahead of what goes over.
		{op("and", is(truth(0)), col("zz")), api.ErrNone},
		{op("or", is(truth(1)), is(number(1))), api.ErrType},
		{op("if", is(truth(1)), is(number(1)), is(words(""))), api.ErrType},
		{op("if", is(truth(1)), is(number(1)), is(number(-1))), api.ErrRange},
		{op("if", is(truth(0)), op("not"), is(number(1))), api.ErrShape},
		{op("+", op("/", is(number(1)), is(number(0))), col("zz")), api.ErrNone},
		{op("not", op("/", is(number(1)), is(number(0)))), api.ErrType},
		{op("+", col("zz"), is(number(-1))), api.ErrRange},
	}
}

// otherRows are rows, none of which is right for the columns.
func otherRows() [][]api.Val {
	all := [][]api.Val{nil, {}, values()[:5], append(values(), number(1)), make([]api.Val, 6), make([]api.Val, 100_000)}
	for i := range values() {
		for _, c := range wrongs {
			r := values()
			r[i] = c.v
			all = append(all, r)
		}
		for _, v := range []api.Val{number(1), truth(1), words("")} {
			if r := values(); r[i].Type != v.Type {
				r[i] = v
				all = append(all, r)
			}
		}
	}
	return all
}

// TestEvalOf is of E1, P1 and P3: Of's How, whatever the row, also where that is wrong.
func TestEvalOf(t *testing.T) {
	for _, c := range faulty() {
		if _, f := kind.Of(c.e, columns()); f.How != c.want {
			t.Errorf("Of(%s): %v, want %v", brief(c.e), f, c.want)
		}
		holdEval(t, c.e, columns(), values(), api.Val{}, c.want)
		for _, r := range otherRows() {
			holdEval(t, c.e, columns(), r, api.Val{}, c.want)
		}
	}
}

// TestEvalSchema is of E1, P1 and P3: columns that are none are told by Of, behind Check of the expression, and ahead of all that is asked of the row.
func TestEvalSchema(t *testing.T) {
	i := api.Col{Name: "i", Type: api.Int}
	for _, c := range []struct {
		l    []api.Col
		want api.Errno
	}{
		{nil, api.ErrNone},
		{[]api.Col{}, api.ErrNone},
		{append(columns(), api.Col{Name: "x", Type: api.Int}), api.ErrFull},
		{make([]api.Col, 100_000), api.ErrFull},
		{[]api.Col{{}}, api.ErrSyntax},
		{[]api.Col{i, {Name: "I", Type: api.Int}}, api.ErrSyntax},
		{[]api.Col{i, {Name: "j", Type: 4}}, api.ErrRange},
		{[]api.Col{i, i}, api.ErrClash},
	} {
		for _, r := range append(otherRows(), values(), slices.Repeat([]api.Val{number(1)}, min(len(c.l), 10))) {
			for _, e := range []api.Expr{is(number(1)), col("i"), col("zz"), op("not", is(number(1))), op("/", is(number(1)), is(number(0)))} {
				holdEval(t, e, c.l, r, api.Val{}, c.want)
			}
			holdEval(t, is(number(-1)), c.l, r, api.Val{}, api.ErrRange)
			holdEval(t, op("not"), c.l, r, api.Val{}, api.ErrShape)
		}
	}
}

// TestEvalRow is of E1, P1 and P3: what Check says of the row, also of columns that are not asked, and ahead of what goes over.
func TestEvalRow(t *testing.T) {
	told := map[api.Errno]int{}
	for _, r := range otherRows() {
		want := plain.Told(row.Check(columns(), r))
		told[want]++
		for _, e := range []api.Expr{
			is(number(1)), col("i"), col("b"), op("/", col("i"), is(number(0))), op("and", is(truth(0)), col("b")),
			op("if", is(truth(1)), is(number(1)), col("abcdefgh")), chain(30), bush(199),
		} {
			holdEval(t, e, columns(), r, api.Val{}, want)
		}
	}
	for _, want := range []api.Errno{api.ErrRange, api.ErrSyntax, api.ErrShape, api.ErrFull, api.ErrType} {
		if told[want] == 0 {
			t.Errorf("no row is %v", want)
		}
	}
	if told[api.OK] > 0 {
		t.Errorf("%d rows are right", told[api.OK])
	}
}

// TestEvalFirst is of E1 and P3: of two that are wrong the first, written out.
func TestEvalFirst(t *testing.T) {
	l := []api.Col{{Name: "i", Type: api.Int}, {Name: "t", Type: api.Text}}
	over := read(t, "1 / 0")
	holdEval(t, read(t, "zz"), l, nil, api.Val{}, api.ErrNone)
	holdEval(t, read(t, "i + t"), l, []api.Val{number(1)}, api.Val{}, api.ErrType)
	holdEval(t, over, l, []api.Val{number(1)}, api.Val{}, api.ErrShape)
	holdEval(t, over, l, []api.Val{number(1), number(1)}, api.Val{}, api.ErrType)
	holdEval(t, over, l, []api.Val{truth(2), words(long(41))}, api.Val{}, api.ErrRange)
	holdEval(t, over, l, []api.Val{number(1), words(long(41))}, api.Val{}, api.ErrFull)
	holdEval(t, over, l, []api.Val{words(""), words("\n")}, api.Val{}, api.ErrType)
	holdEval(t, over, l, []api.Val{number(1), words("")}, api.Val{}, api.ErrOver)
}

// chain has n nodes below each other.
func chain(n int) api.Expr {
	e := col("i")
	for range n - 1 {
		e = op("neg", e)
	}
	return e
}

// bush has n nodes, which must be odd, and is not deep.
func bush(n int) api.Expr {
	if n == 1 {
		return col("i")
	}
	left := (n - 1) / 2
	if left%2 == 0 {
		left--
	}
	return op("+", bush(left), bush(n-1-left))
}

// TestEvalGreat is of E1: expressions as deep and as great as may be, over as many columns, with texts as long as may be.
func TestEvalGreat(t *testing.T) {
	holdEval(t, chain(30), columns(), values(), number(7), api.OK)
	holdEval(t, chain(29), columns(), values(), number(-7), api.OK)
	holdEval(t, bush(199), columns(), values(), number(-700), api.OK)
	holdEval(t, op("neg", bush(199)), columns(), values(), number(700), api.OK)
	least := values()
	least[0] = number(math.MinInt)
	holdEval(t, chain(30), columns(), least, api.Val{}, api.ErrOver)
	holdEval(t, bush(199), columns(), least, api.Val{}, api.ErrOver)

	// Each `if` has the next one as its third, so the value at the very end is told.
	e := is(words(long(40)))
	for range 29 {
		e = op("if", col("neg"), is(words("x")), e)
	}
	holdEval(t, e, columns(), values(), words(long(40)), api.OK)
	e = op("/", is(number(1)), is(number(0)))
	for range 27 {
		e = op("if", col("b"), e, col("i"))
	}
	holdEval(t, e, columns(), values(), api.Val{}, api.ErrOver)
	holdEval(t, op("if", col("neg"), e, col("i")), columns(), values(), number(-7), api.OK)

	all := op("and", col("b"), col("b"))
	for range 27 {
		all = op("and", all, col("b"))
	}
	holdEval(t, all, columns(), values(), truth(1), api.OK)
	holdEval(t, op("and", all, op("=", op("%", col("i"), is(number(0))), col("i"))), columns(), values(), api.Val{}, api.ErrOver)
}

// TestEvalWordColumns is of E1: a schema may have words of the language as names, and the other columns are found beside them.
func TestEvalWordColumns(t *testing.T) {
	l := []api.Col{{Name: "sum", Type: api.Text}, {Name: "true", Type: api.Bool}, {Name: "i", Type: api.Int}}
	r := []api.Val{words("s"), truth(0), number(9)}
	holdEval(t, col("i"), l, r, number(9), api.OK)
	holdEval(t, is(truth(1)), l, r, truth(1), api.OK)
	holdEval(t, col("sum"), l, r, api.Val{}, api.ErrSyntax)
}

// rulesTo are the ops, with the types of their Args, by which something is of a type: i Int, b Bool, t Text.
func rulesTo(of int) []string {
	numbers := "+ii -ii *ii /ii %ii negi lent ifbii"
	truths := "orbb andbb notb =ii <>ii <ii <=ii >ii >=ii =tt <tt >tt =bb <>bb <=bb ifbbb"
	return strings.Fields([]string{numbers, truths, "ifbtt"}[of-1])
}

// some is an expression by chance, of that type and at most so deep.
func some(r *rand.Rand, depth, of int) api.Expr {
	switch {
	case depth > 1 && r.Intn(5) > 0:
		all := rulesTo(of)
		one := all[r.Intn(len(all))]
		name := one
		for _, o := range kind.Ops() {
			// `<` stands ahead of `<=` too, but leaves one too many there.
			if strings.HasPrefix(one, o) && len(one)-len(o) == countOf(o) {
				name = o
			}
		}
		e := op(name)
		for _, a := range one[len(name):] {
			e.Args = append(e.Args, some(r, depth-1, strings.IndexRune(" ibt", a)))
		}
		return e
	case r.Intn(3) == 0:
		v := rising[of-1][r.Intn(len(rising[of-1]))]
		v.N = max(v.N, 0)
		return is(v)
	}
	return col([][]string{{"i", "abcdefgh"}, {"b", "neg"}, {"t", "col"}}[of-1][r.Intn(2)])
}

// comes is what Eval is to answer of what is right: the expression is made shorter, step by step, until it is a value.
func comes(e api.Expr, l []api.Col, r []api.Val) (api.Val, api.Errno) {
	for e.Op != "val" {
		var told api.Errno
		if e, told = shorter(e, l, r); told != api.OK {
			return api.Val{}, told
		}
	}
	return e.Val, api.OK
}

// shorter does the one thing that is next to be done.
func shorter(e api.Expr, l []api.Col, r []api.Val) (api.Expr, api.Errno) {
	if e.Op == "col" {
		return is(r[slices.IndexFunc(l, func(c api.Col) bool { return c.Name == e.Name })]), api.OK
	}
	for i, a := range e.Args {
		if a.Op != "val" {
			a, told := shorter(a, l, r)
			return op(e.Op, slices.Concat(e.Args[:i], []api.Expr{a}, e.Args[i+1:])...), told
		}
		switch {
		case e.Op == "if":
			return e.Args[2-a.Val.N], api.OK
		case e.Op == "and" && a.Val.N == 0, e.Op == "or" && a.Val.N == 1:
			return a, api.OK
		}
	}
	var args []api.Val
	for _, a := range e.Args {
		args = append(args, a.Val)
	}
	v, told := does(e.Op, args)
	return is(v), told
}

// TestEvalSome is of E1: expressions and rows by chance, held against a second way.
func TestEvalSome(t *testing.T) {
	r := rand.New(rand.NewSource(3))
	times := map[api.Errno]int{}
	for range 20_000 {
		e := some(r, 1+r.Intn(7), 1+r.Intn(3))
		l := columns()
		r.Shuffle(len(l), func(i, j int) { l[i], l[j] = l[j], l[i] })
		var vals []api.Val
		for _, c := range l {
			of := rising[c.Type-1]
			v := of[r.Intn(len(of))]
			if c.Type == api.Int && r.Intn(3) > 0 {
				v = number(r.Intn(9) - 4)
			}
			vals = append(vals, v)
		}
		if tree.Size(e) > api.MaxNodes {
			holdEval(t, e, l, vals, api.Val{}, api.ErrFull)
			continue
		}
		want, told := comes(e, l, vals)
		times[told]++
		holdEval(t, e, l, vals, want, told)
	}
	if times[api.OK] < 5_000 || times[api.ErrOver] < 1_000 {
		t.Errorf("there were %v", times)
	}
}

// TestEndless is of P1: what is far too great, or stands within itself, or lies deeper than calls could go, is too great.
func TestEndless(t *testing.T) {
	// Calls as deep as this would need far more.
	defer debug.SetMaxStack(debug.SetMaxStack(8 << 20))
	doubled := col("i")
	for range 100 {
		doubled = op("+", doubled, doubled)
	}
	own := make([]api.Expr, 1)
	own[0] = op("neg", own...)
	both := make([]api.Expr, 2)
	both[0], both[1] = is(truth(0)), op("and", both...)
	for i, e := range []api.Expr{doubled, own[0], both[1], chain(500_000), {Op: "if", Args: make([]api.Expr, 100_000)}} {
		for _, r := range [][]api.Val{values(), nil} {
			if got, err := eval.Eval(e, columns(), r); got != (api.Val{}) || plain.Told(err) != api.ErrFull {
				t.Errorf("Eval of endless %d: %v, %v, want ErrFull", i, got, err)
			}
		}
	}
}

// roomy has room behind each of its lists, and something in it.
func roomy(e api.Expr) api.Expr {
	args := make([]api.Expr, len(e.Args), len(e.Args)+2)
	for i, a := range e.Args {
		args[i] = roomy(a)
	}
	for i := range 2 {
		args[:cap(args)][len(args)+i] = col("behind")
	}
	e.Args = args
	return e
}

// behind tells whether all that roomy laid is as it was.
func behind(e api.Expr) bool {
	so := slices.EqualFunc(e.Args[len(e.Args):cap(e.Args)], []api.Expr{col("behind"), col("behind")}, alike)
	for _, a := range e.Args {
		so = so && behind(a)
	}
	return so
}

// alike tells whether two are the same, At and all.
func alike(a, b api.Expr) bool {
	return a.Op == b.Op && a.Name == b.Name && a.Val == b.Val && a.At == b.At && slices.EqualFunc(a.Args, b.Args, alike)
}

// TestListsStay is of P2 and P4: what Eval is given stays as it is, and what lies behind its length is neither read nor written.
func TestListsStay(t *testing.T) {
	l := []api.Expr{col("behind"), chain(30), bush(199)}
	for _, c := range texts {
		l = append(l, read(t, c.text))
	}
	for _, c := range faulty() {
		l = append(l, c.e)
	}
	for _, e := range l {
		for n := range len(columns()) + 1 {
			for m := max(0, n-1); m <= min(n+1, len(values())); m++ {
				handed, cols, vals := roomy(e), columns(), values()
				want, err := eval.Eval(e, slices.Clone(cols[:n]), slices.Clone(vals[:m]))
				holdEval(t, handed, cols[:n], vals[:m], want, plain.Told(err))
				if !alike(handed, e) || !behind(handed) || !slices.Equal(cols, columns()) || !slices.Equal(vals, values()) {
					t.Errorf("%s, its columns or its row were written into", brief(e))
				}
			}
		}
	}
}

// TestArgsStay is of P2 and P4: so it is with the values that Do is given.
func TestArgsStay(t *testing.T) {
	few := []api.Val{number(1), truth(0), truth(1), words("x"), {}}
	for _, o := range append(kind.Ops(), "nor") {
		for n := range 4 {
			for _, args := range choices(few, n) {
				for _, more := range [][]api.Val{{truth(1), truth(1)}, {number(1), number(1)}, {{}, {}}} {
					handed := slices.Concat(args, more)
					want, told := answer(o, args)
					holdDo(t, o, handed[:n], want, told)
					if !slices.Equal(handed, slices.Concat(args, more)) {
						t.Errorf("Do(%q) made %v of %v and %v", o, handed, args, more)
					}
				}
			}
		}
	}
}

// TestNothingKept is of P2: what is done afterwards with what was handed in changes no earlier and no later answer.
func TestNothingKept(t *testing.T) {
	e, l, r, args := op("if", col("b"), col("t"), col("col")), columns(), values(), []api.Val{truth(1), words("x"), words("y")}
	came, _ := eval.Eval(e, l, r)
	did, _ := eval.Do("if", args)
	r[4], args[1], e.Args[2] = words("other"), words("z"), is(words(""))
	if came != words("it's") || did != words("x") {
		t.Errorf("it came to %v, and was done: %v", came, did)
	}
	holdEval(t, e, l, r, words("other"), api.OK)
	holdDo(t, "if", args, words("z"), api.OK)
	e.Args[0], l[4].Type = is(truth(0)), api.Int
	holdEval(t, e, l, r, api.Val{}, api.ErrType)
	holdEval(t, op("if", col("b"), col("t"), col("col")), columns(), values(), words("it's"), api.OK)
	holdDo(t, "if", []api.Val{truth(1), words("x"), words("y")}, words("x"), api.OK)
}

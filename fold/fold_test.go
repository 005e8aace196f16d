package fold_test

import (
	"fmt"
	"math"
	"math/big"
	"math/rand"
	"runtime/debug"
	"slices"
	"strings"
	"testing"
	"unsafe"

	"sluicebook/api"
	"sluicebook/code"
	"sluicebook/eval"
	"sluicebook/fold"
	"sluicebook/kind"
	"sluicebook/lex"
	"sluicebook/plain"
	"sluicebook/tree"
	"sluicebook/vm"
)

func number(n int) api.Val   { return api.Val{Type: api.Int, N: n} }
func truth(n int) api.Val    { return api.Val{Type: api.Bool, N: n} }
func words(s string) api.Val { return api.Val{Type: api.Text, S: s} }

// long is a text of so many bytes.
func long(n int) string { return strings.Repeat("z", n) }

// brief is the beginning of what is told of something, which may be very great.
func brief(a any) string { return fmt.Sprintf("%.300q", fmt.Sprint(a)) }

// written is an expression as it is printed, or all of it where it cannot be.
func written(e api.Expr) string {
	text, err := tree.Print(e)
	if err != nil {
		return brief(e)
	}
	return text
}

func col(name string) api.Expr { return api.Expr{Op: "col", Name: name} }

func is(v api.Val) api.Expr { return api.Expr{Op: "val", Val: v} }

func op(name string, args ...api.Expr) api.Expr { return api.Expr{Op: name, Args: args, At: 5} }

// over is a Bool that goes over.
func over() api.Expr {
	return op("=", op("/", is(number(1)), is(number(0))), is(number(1)))
}

// read is the expression of a text, which must be one.
func read(t *testing.T, text string) api.Expr {
	t.Helper()
	e, f := tree.Parse(text)
	if f != (api.Fault{}) {
		t.Fatalf("Parse(%q): %v", text, f)
	}
	return e
}

// columns are as many as may be, two of each type, of which some have names of Ops.
func columns() []api.Col {
	return []api.Col{
		{Name: "i", Type: api.Int}, {Name: "col", Type: api.Text}, {Name: "b", Type: api.Bool},
		{Name: "neg", Type: api.Bool}, {Name: "t", Type: api.Text}, {Name: "abcdefgh", Type: api.Int},
	}
}

// rows are some of those columns, of all Bools, of numbers and texts near and far off.
func rows() [][]api.Val {
	var all [][]api.Val
	texts := []string{"", "it's", "a", long(40)}
	numbers := []int{-7, 0, math.MinInt, 3}
	for n := range 4 {
		all = append(all, []api.Val{
			number(numbers[n]), words(texts[n]), truth(n / 2), truth(n % 2), words(texts[3-n]), number(numbers[3-n]),
		})
	}
	return all
}

// alike tells whether two are the same, At and all.
func alike(a, b api.Expr) bool {
	return a.Op == b.Op && a.Name == b.Name && a.Val == b.Val && a.At == b.At && slices.EqualFunc(a.Args, b.Args, alike)
}

// madeShort is what one rule of O1 makes of a node itself, At and all; false: none has anything to say of it.
func madeShort(e api.Expr) (api.Expr, bool) {
	var args []api.Val
	for _, a := range e.Args {
		if a.Op == "val" {
			args = append(args, a.Val)
		}
	}
	if len(e.Args) > 0 && len(args) == len(e.Args) {
		v, err := eval.Do(e.Op, args)
		return api.Expr{Op: "val", Val: v, At: e.At}, err == nil && v.N >= 0
	}
	first := func() api.Expr { return e.Args[0] }
	switch {
	case e.Op == "not" && first().Op == "not":
		return first().Args[0], true
	case e.Op == "if" && first().Op == "val":
		return e.Args[2-first().Val.N], true
	case e.Op == "and" && first().Op == "val":
		return e.Args[first().Val.N], true
	case e.Op == "or" && first().Op == "val":
		return e.Args[1-first().Val.N], true
	}
	return api.Expr{}, false
}

// steps are all that one rule, at one node, makes of an expression, where each node comes behind its Args.
func steps(e api.Expr) []api.Expr {
	var all []api.Expr
	for i, a := range e.Args {
		for _, s := range steps(a) {
			n := e
			n.Args = slices.Concat(e.Args[:i], []api.Expr{s}, e.Args[i+1:])
			all = append(all, n)
		}
	}
	if s, ok := madeShort(e); ok {
		all = append(all, s)
	}
	return all
}

// stepwise makes an expression short again and again, each time by that one of the steps which is picked out of so many, until no rule has anything to say.
func stepwise(e api.Expr, pick func(n int) int) api.Expr {
	for {
		all := steps(e)
		if len(all) == 0 {
			return e
		}
		e = all[pick(len(all))]
	}
}

// theFirst of so many.
func theFirst(int) int { return 0 }

// comes is what an expression comes to of a row, in each of the ways that there are.
func comes(t *testing.T, e api.Expr, l []api.Col, r []api.Val) (api.Val, api.Errno) {
	t.Helper()
	v, err := eval.Eval(e, l, r)
	instrs, f := code.Compile(e, l)
	if ran, _, bad := vm.Run(instrs, l, r, api.MaxCode); f.How != api.OK || ran != v || plain.Told(bad) != plain.Told(err) {
		t.Errorf("%s, of %s: %v, %v, but compiled %v, %v, %v", written(e), brief(r), v, err, f, ran, bad)
	}
	return v, plain.Told(err)
}

// hold makes an expression short that is right, and holds all that O1 says of that, but for At.
func hold(t *testing.T, e api.Expr, l []api.Col, rows ...[]api.Val) api.Expr {
	t.Helper()
	got, err := fold.Fold(e, l)
	if err != nil {
		t.Fatalf("Fold(%s, %s): %v", brief(e), brief(l), err)
	}
	want, _ := kind.Of(e, l)
	if of, f := kind.Of(got, l); of != want || f.How != api.OK {
		t.Fatalf("Fold(%s): %s: of type %d, %v, want %d", written(e), brief(got), of, f, want)
	}
	if tree.Size(got) > tree.Size(e) {
		t.Errorf("Fold(%s): %s has %d nodes, not at most %d", written(e), written(got), tree.Size(got), tree.Size(e))
	}
	if left := steps(got); len(left) > 0 {
		t.Errorf("Fold(%s): %s, which could be %s", written(e), written(got), written(left[0]))
	}
	if again, err := fold.Fold(got, l); err != nil || !alike(again, got) {
		t.Errorf("Fold(%s): %s, but then %s, %v", written(e), written(got), written(again), err)
	}
	for _, r := range rows {
		want, told := comes(t, e, l, r)
		if v, how := comes(t, got, l, r); v != want || how != told {
			t.Errorf("Fold(%s): %s, of %s: %v, %v, want %v, %v", written(e), written(got), brief(r), v, how, want, told)
		}
	}
	return got
}

// holdText is of expressions as they are read and written.
func holdText(t *testing.T, text, want string) {
	t.Helper()
	if got := written(hold(t, read(t, text), columns(), rows()...)); got != want {
		t.Errorf("Fold of %q: %s, want %s", text, got, want)
	}
}

// TestValues is of O1: of nodes of which all Args are values.
func TestValues(t *testing.T) {
	for text, want := range map[string]string{
		"5": "5", "0": "0", "true": "true", "false": "false", "''": "''", "'it''s'": "'it''s'", "9223372036854775807": "9223372036854775807",

		"1 + 2": "3", "5 - 3": "2", "5 - 5": "0", "6 * 7": "42", "7 / 2": "3", "7 % 2": "1", "0 / 7": "0", "0 % 7": "0", "- 0": "0", "- - 0": "0",
		"1 + 2 * 3 - 4": "3", "(1 + 2) * 3": "9", "100 / 7 / 2 % 4": "3",
		"9223372036854775806 + 1": "9223372036854775807", "9223372036854775807 - 9223372036854775807": "0", "3037000499 * 3037000499": "9223372030926249001",

		"not true": "false", "not false": "true", "not not true": "true", "not not not true": "false",
		"true and true": "true", "true and false": "false", "false and true": "false", "false or false": "false", "false or true": "true", "true or false": "true",
		"1 = 1": "true", "1 <> 1": "false", "1 < 2": "true", "2 <= 1": "false", "2 > 1": "true", "1 >= 1": "true",
		"'a' = 'a'": "true", "'a' < 'A'": "false", "'' <= ''": "true", "'b' > 'aa'": "true", "false < true": "true", "true <> true": "false",
		"len('')": "0", "len('it''s')": "4", "len('" + long(40) + "')": "40",
		"if(true, 1, 2)": "1", "if(false, 1, 2)": "2", "if(true, 'a', 'b')": "'a'", "if(false, 'a', 'b')": "'b'", "if(1 < 2, true, false)": "true",
		"if(len('ab') + 1 = 3 and not false, 'x', 'y')": "'x'", "len(if(1 = 2, 'x', 'yy')) * 3": "6",

		"i + (1 + 2)": "(i + 3)", "(1 + 2) + i": "(3 + i)", "1 + 2 + i": "(3 + i)", "i + 1 + 2": "((i + 1) + 2)", "i * (2 - 2)": "(i * 0)",
		"len(if(b, 'x', if(1 = 1, 'y', t)))": "len(if(b, 'x', 'y'))", "b = (1 = 1)": "(b = true)", "- (i + 2 * 2)": "(- (i + 4))",
	} {
		holdText(t, text, want)
	}
}

// TestOver is of O1: what goes over stays, alone and in other operations, and what it stands in.
func TestOver(t *testing.T) {
	for text, want := range map[string]string{
		"9223372036854775807 + 1": "(9223372036854775807 + 1)", "1 + 9223372036854775807": "(1 + 9223372036854775807)",
		"9223372036854775807 * 2": "(9223372036854775807 * 2)", "3037000500 * 3037000500": "(3037000500 * 3037000500)",
		"1 / 0": "(1 / 0)", "0 / 0": "(0 / 0)", "1 % 0": "(1 % 0)", "0 % 0": "(0 % 0)", "9223372036854775807 / (1 - 1)": "(9223372036854775807 / 0)",

		"1 / 0 + 2": "((1 / 0) + 2)", "2 - 1 / 0 * 3": "(2 - ((1 / 0) * 3))", "0 * (1 / 0)": "(0 * (1 / 0))", "- (1 % 0)": "(- (1 % 0))",
		"1 / 0 = 1 / 0": "((1 / 0) = (1 / 0))", "not 1 / 0 = 1": "(not ((1 / 0) = 1))", "not not 1 / 0 = 1": "((1 / 0) = 1)",
		"(1 + 1) / (1 - 1) + (1 + 1)": "((2 / 0) + 2)",

		// Below 0 nothing is a value, so what goes over there is of operations.
		"- 9223372036854775807 - 2":         "((- 9223372036854775807) - 2)",
		"- 9223372036854775807 + - 2":       "((- 9223372036854775807) + (- 2))",
		"- (- 9223372036854775807 - 1)":     "(- ((- 9223372036854775807) - 1))",
		"0 - (- 9223372036854775807 - 1)":   "(0 - ((- 9223372036854775807) - 1))",
		"(- 9223372036854775807 - 1) / - 1": "(((- 9223372036854775807) - 1) / (- 1))",
		"(- 9223372036854775807 - 1) * - 1": "(((- 9223372036854775807) - 1) * (- 1))",
		"(- 9223372036854775807 - 1) % - 1": "(((- 9223372036854775807) - 1) % (- 1))",

		// It is needed, and told.
		"1 / 0 = 1 and false": "(((1 / 0) = 1) and false)", "1 / 0 = 1 or true": "(((1 / 0) = 1) or true)", "if(1 / 0 = 1, 2, 2)": "if(((1 / 0) = 1), 2, 2)",
		"true and 1 / 0 = 1": "((1 / 0) = 1)", "false or 1 / 0 = 1": "((1 / 0) = 1)", "if(true, 1 / 0, 1)": "(1 / 0)", "if(false, 1, 1 % 0)": "(1 % 0)",

		// It is not needed.
		"false and 1 / 0 = 1": "false", "true or 1 / 0 = 1": "true", "if(true, 1, 1 / 0)": "1", "if(false, 1 / 0, 2)": "2",
		"false and 1 / 0 = 1 and 1 % 0 = 1": "false", "true or 1 / 0 = 1 or 1 % 0 = 1": "true", "not (1 = 2 and 1 / 0 = 1)": "true",
		"if(1 = 1, t, if(1 / 0 = 1, t, col))": "t", "if(true or 1 / 0 = 1, i, 1 / 0)": "i", "1 + if(false, 1 / 0, 2)": "3",

		// Whether it is needed, the row tells.
		"b and 1 / 0 = 1": "(b and ((1 / 0) = 1))", "b or 1 / 0 = 1": "(b or ((1 / 0) = 1))", "if(b, 1 / 0, 1)": "if(b, (1 / 0), 1)", "if(b, 1, 1 / 0)": "if(b, 1, (1 / 0))",
	} {
		holdText(t, text, want)
	}
}

// TestBelow is of O1: what is below 0 stays, alone and in other operations, and so does what it stands in, whatever that comes to.
func TestBelow(t *testing.T) {
	for text, want := range map[string]string{
		"- 1": "(- 1)", "- 9223372036854775807": "(- 9223372036854775807)", "0 - 1": "(0 - 1)", "2 - 3": "(2 - 3)", "0 - 9223372036854775807": "(0 - 9223372036854775807)",
		"- (1 + 2)": "(- 3)", "1 + 2 - 2 * 2": "(3 - 4)", "- len('ab')": "(- 2)",
		"- - 1": "(- (- 1))", "- - - 1": "(- (- (- 1)))", "2 - 3 + 5": "((2 - 3) + 5)", "- 1 * 0": "((- 1) * 0)", "- 7 / 2": "((- 7) / 2)", "- 1 < 0": "((- 1) < 0)", "- 1 = - 1": "((- 1) = (- 1))",
		"if(- 1 < 0, 1, 2)": "if(((- 1) < 0), 1, 2)", "- 1 < 0 and true": "(((- 1) < 0) and true)", "not not - 1 < 0": "((- 1) < 0)",
		"true and - 1 < 0": "((- 1) < 0)", "false or - 1 < 0": "((- 1) < 0)", "if(true, - 1, 1)": "(- 1)", "if(false, 1, 2 - 3)": "(2 - 3)",
		"false and - 1 < 0": "false", "true or - 1 < 0": "true", "if(true, 1, - 1)": "1", "if(b, - 1, 1 + 1)": "if(b, (- 1), 2)",
		"- 1 + (2 + 3)": "((- 1) + 5)", "- if(true, 3, 0)": "(- 3)",
	} {
		holdText(t, text, want)
	}
}

// TestFirst is of O1: `and`, `or`, `if` whose first is a value, and those whose other ones are.
func TestFirst(t *testing.T) {
	for text, want := range map[string]string{
		"true and b": "b", "false and b": "false", "true or b": "true", "false or b": "b",
		"b and true": "(b and true)", "b and false": "(b and false)", "b or true": "(b or true)", "b or false": "(b or false)",
		"b and b": "(b and b)", "b and not b": "(b and (not b))", "b or not b": "(b or (not b))",
		"if(true, i, abcdefgh)": "i", "if(false, i, abcdefgh)": "abcdefgh", "if(true, t, 'x')": "t", "if(true, 'x', t)": "'x'", "if(false, 'x', t)": "t", "if(false, t, 'x')": "'x'",
		"if(b, 1, 1)": "if(b, 1, 1)", "if(b, i, i)": "if(b, i, i)", "if(b, true, false)": "if(b, true, false)",

		"1 = 1 and b": "b", "1 = 2 and b": "false", "1 = 1 or b": "true", "1 = 2 or b": "b", "if(1 = 2, i, i + 1)": "(i + 1)",
		"true and true and b": "b", "true and b and true": "(b and true)", "b and true and true": "((b and true) and true)", "b and (true and true)": "(b and true)", "b and (true and neg)": "(b and neg)",
		"false or false or b": "b", "true and (false or b)": "b", "(true or b) and neg": "neg", "(false and b) or neg": "neg", "(true or b) and (false and neg)": "false",
		"if(true or b, if(false and b, 1, i), 2)": "i", "if(if(true, b, neg), 1, 2)": "if(b, 1, 2)", "if(if(true, false, b), i, if(true, 3, i)) + 1": "4",
		"i + if(false, 1, if(true, 2, i))": "(i + 2)", "len(if(true, t, col)) = 0": "(len(t) = 0)",

		// What is no value yet becomes one.
		"(true or b) = (false and neg)": "false", "if(true or b, 1, i) + if(false and b, i, 2)": "3", "not (false and b)": "true", "- if(true, 0, i)": "0",
		"if(i = 0, 1 + 1, 2 + 2) * (3 + 3)": "(if((i = 0), 2, 4) * 6)",
	} {
		holdText(t, text, want)
	}
}

// TestNot is of O1: `not` of `not`, as often as it stands.
func TestNot(t *testing.T) {
	for text, want := range map[string]string{
		"not b": "(not b)", "not not b": "b", "not not not b": "(not b)", "not not not not b": "b", "not not not not not b": "(not b)",
		"not not i = 0": "(i = 0)", "not not not i = 0": "(not (i = 0))", "not not (b and neg)": "(b and neg)", "not (b and not not neg)": "(not (b and neg))",
		"not not (true and b)": "b", "not (true and not b)": "b", "not if(true, not b, b)": "b", "not (false or not (true and not b))": "(not b)", "not (not b = b)": "(b = b)",
		"not not if(b, not not neg, not neg)": "if(b, neg, (not neg))", "not not true and b": "b", "not not false and b": "false", "not not not true or not not b": "b",
		"- - i": "(- (- i))", "not not - - i = i": "((- (- i)) = i)",
	} {
		holdText(t, text, want)
	}
	for n := range api.MaxDepth {
		holdText(t, strings.Repeat("not ", n)+"b", []string{"b", "(not b)"}[n%2])
		holdText(t, strings.Repeat("not ", n)+"true", []string{"true", "false"}[n%2])
	}
}

// rising are values of each type that may stand in an expression, each ahead of those behind it.
var rising = [][]api.Val{
	{
		number(0), number(1), number(2), number(3), number(7), number(1 << 31), number(3_037_000_499), number(3_037_000_500),
		number(1 << 62), number(math.MaxInt - 1), number(math.MaxInt),
	},
	{truth(0), truth(1)},
	{words(""), words(" "), words("'"), words("0"), words("a"), words("aa"), words("b"), words("it's"), words(long(40))},
}

// great reckons with numbers of any size; nil: there is no quotient.
func great(op string, a, b int) *big.Int {
	x, y := big.NewInt(int64(a)), big.NewInt(int64(b))
	switch {
	case op == "+":
		return x.Add(x, y)
	case op == "-":
		return x.Sub(x, y)
	case op == "*":
		return x.Mul(x, y)
	case b == 0:
		return nil
	case op == "/":
		return x.Quo(x, y)
	}
	return x.Rem(x, y)
}

// TestNumbers is of O1: each operation of each two numbers is a value just where it neither goes over nor is below 0.
func TestNumbers(t *testing.T) {
	stay := 0
	for _, a := range rising[0] {
		for _, b := range rising[0] {
			for _, o := range []string{"+", "-", "*", "/", "%"} {
				e := op(o, is(a), is(b))
				want := e
				if n := great(o, a.N, b.N); n != nil && n.IsInt64() && n.Sign() >= 0 {
					want = api.Expr{Op: "val", Val: number(int(n.Int64())), At: 5}
				} else {
					stay++
				}
				if got := hold(t, e, columns(), rows()[0]); !alike(got, want) {
					t.Errorf("Fold(%s): %v, want %v", written(e), got, want)
				}
			}
		}
		e := op("neg", is(a))
		want := e
		if a.N == 0 {
			want = api.Expr{Op: "val", Val: a, At: 5}
		}
		if got := hold(t, e, columns(), rows()[0]); !alike(got, want) {
			t.Errorf("Fold(%s): %v, want %v", written(e), got, want)
		}
	}
	if stay < 80 {
		t.Errorf("only %d stay", stay)
	}
}

// TestOthers is of O1: each operation of values that comes to a Bool, a Text or how long one is, is a value.
func TestOthers(t *testing.T) {
	so := func(is bool) api.Val {
		if is {
			return truth(1)
		}
		return truth(0)
	}
	value := func(e api.Expr, want api.Val) {
		t.Helper()
		if got := hold(t, e, columns(), rows()[0]); !alike(got, api.Expr{Op: "val", Val: want, At: 5}) {
			t.Errorf("Fold(%s): %v, want %v", written(e), got, want)
		}
	}
	for _, l := range rising {
		for i, a := range l {
			for j, b := range l {
				value(op("=", is(a), is(b)), so(i == j))
				value(op("<>", is(a), is(b)), so(i != j))
				value(op("<", is(a), is(b)), so(i < j))
				value(op("<=", is(a), is(b)), so(i <= j))
				value(op(">", is(a), is(b)), so(i > j))
				value(op(">=", is(a), is(b)), so(i >= j))
				value(op("if", is(truth(1)), is(a), is(b)), a)
				value(op("if", is(truth(0)), is(a), is(b)), b)
			}
		}
	}
	for _, a := range rising[2] {
		value(op("len", is(a)), number(len(a.S)))
	}
	for n := range 4 {
		a, b := n/2, n%2
		value(op("and", is(truth(a)), is(truth(b))), truth(a*b))
		value(op("or", is(truth(a)), is(truth(b))), truth(max(a, b)))
		value(op("not", is(truth(a))), truth(1-a))
	}
}

// choices are all lists of n of these.
func choices[T any](l []T, n int) [][]T {
	if n == 0 {
		return [][]T{nil}
	}
	var all [][]T
	for _, ahead := range choices(l, n-1) {
		for _, one := range l {
			all = append(all, append(slices.Clone(ahead), one))
		}
	}
	return all
}

// countOf is how many Args an op has.
func countOf(op string) int {
	switch op {
	case "not", "neg", "len":
		return 1
	case "if":
		return 3
	}
	return 2
}

// holdSteps is of what hold does, and of the rules done one by one, at nodes by chance; with At, from the first on.
func holdSteps(t *testing.T, r *rand.Rand, e api.Expr, l []api.Col, rows ...[]api.Val) {
	t.Helper()
	got := hold(t, e, l, rows...)
	if want := stepwise(e, r.Intn); !tree.Same(got, want) {
		t.Errorf("Fold(%s): %s, want %s", written(e), written(got), written(want))
	}
	next := r.Intn(9) - 4
	holdAt(t, numbered(e, &next), l)
}

// TestChoices is of O1: all of `or`, `and`, `not` and `=` of all of these again, of a column, of false and true, and of what goes over; and `if` with one of those, or another `if`, at each place.
func TestChoices(t *testing.T) {
	r := rand.New(rand.NewSource(1))
	leaves := []api.Expr{col("b"), is(truth(0)), is(truth(1)), over()}
	l := []api.Col{{Name: "b", Type: api.Bool}}
	both := [][]api.Val{{truth(0)}, {truth(1)}}
	var inner []api.Expr
	for _, o := range []string{"or", "and", "not", "="} {
		for _, args := range choices(leaves, countOf(o)) {
			inner = append(inner, op(o, args...))
		}
	}
	for _, o := range []string{"or", "and", "not", "="} {
		for _, args := range choices(slices.Concat(leaves, inner), countOf(o)) {
			holdSteps(t, r, op(o, args...), l, both...)
		}
	}
	for _, args := range choices(leaves, 3) {
		inner = append(inner, op("if", args...))
	}
	for i, e := range inner {
		holdSteps(t, r, op("not", op("not", e)), l, both...)
		for _, args := range choices(leaves, 2) {
			holdSteps(t, r, op("if", e, args[0], args[1]), l, both...)
			holdSteps(t, r, op("if", args[0], e, args[1]), l, both...)
			holdSteps(t, r, op("if", args[0], args[1], e), l, both...)
			holdSteps(t, r, op("if", args[0], e, inner[(i*7+5)%len(inner)]), l, both...)
		}
	}
}

// TestOne is of O1: a value and a column stay, wherever the column stands.
func TestOne(t *testing.T) {
	for _, v := range slices.Concat(rising...) {
		for _, at := range []int{0, 7, -7, math.MinInt, math.MaxInt} {
			e := api.Expr{Op: "val", Val: v, At: at}
			if got := hold(t, e, columns(), rows()...); !alike(got, e) {
				t.Errorf("Fold(%v): %v", e, got)
			}
		}
	}
	for i, c := range columns() {
		for _, at := range []int{0, 7, -7, math.MinInt, math.MaxInt} {
			e := api.Expr{Op: "col", Name: c.Name, At: at}
			for _, l := range [][]api.Col{columns(), columns()[i:], columns()[:i+1]} {
				if got := hold(t, e, l); !alike(got, e) {
					t.Errorf("Fold(%v): %v", e, got)
				}
			}
		}
	}
}

// places are the Ats of an expression, each ahead of those of its Args.
func places(e api.Expr) []int {
	l := []int{e.At}
	for _, a := range e.Args {
		l = append(l, places(a)...)
	}
	return l
}

// TestAt is of O1: what stays, or is chosen, has the At that it had; a value that Do says has the node's.
func TestAt(t *testing.T) {
	for _, c := range []struct {
		text string
		want []int
	}{
		{"  5", []int{2}},
		{" ( i )", []int{3}},
		{"i + abcdefgh", []int{2, 0, 4}},
		{"1 + 2", []int{2}},
		{"1 + 2 * 3", []int{2}},
		{"i + 2 * 3", []int{2, 0, 6}},
		{"2 * 3 + i", []int{6, 2, 8}},
		{"not  true", []int{0}},
		{" not not true", []int{1}},
		{"- 0", []int{0}},
		{"- 1", []int{0, 2}},
		{"2 - (1 + 2)", []int{2, 0, 7}},
		{"1 / (3 - 3)", []int{2, 0, 7}},
		{"len('ab') = i", []int{10, 0, 12}},
		{"if(true, 1, 2)", []int{0}},
		{" if(true, 1, i)", []int{10}},
		{" if(false, i, 1 + 1)", []int{16}},
		{"if(true, i, 1)", []int{9}},
		{"if(false, i, i + 1)", []int{15, 13, 17}},
		{"if(b, 1, 1 + 1)", []int{0, 3, 6, 11}},
		{"true and b", []int{9}},
		{"false and b", []int{0}},
		{"true or b", []int{0}},
		{"false or b", []int{9}},
		{"false or not b", []int{9, 13}},
		{"true and i = 0", []int{11, 9, 13}},
		{"true and (false and b)", []int{5}},
		{"b and (false and b)", []int{2, 0, 7}},
		{"b and (true and neg)", []int{2, 0, 16}},
		{"not not b", []int{8}},
		{"not not (b or neg)", []int{11, 9, 14}},
		{"if(true, if(true, 3, i), i) + i", []int{28, 18, 30}},

		// Of several ways the one where each node comes behind its Args.
		{"not not not b", []int{0, 12}},
		{"if(true, 3, 1 + 2)", []int{0}},
		{"false and (true or b)", []int{6}},
	} {
		got, err := fold.Fold(read(t, c.text), columns())
		if err != nil || !slices.Equal(places(got), c.want) {
			t.Errorf("Fold of %q: %s at %v, %v, want %v", c.text, written(got), places(got), err, c.want)
		}
	}
}

// put is an expression that stands elsewhere.
func put(at int, e api.Expr) api.Expr {
	e.At = at
	return e
}

// holdPlaced is of an expression, and of what it comes to, At and all, behind each other.
func holdPlaced(t *testing.T, pairs [][2]api.Expr) {
	t.Helper()
	for n, c := range pairs {
		e, want := c[0], c[1]
		if got := hold(t, e, columns(), rows()...); !alike(got, want) {
			t.Errorf("%d: Fold(%s): %s at %v, want %s at %v", n, written(e), written(got), places(got), written(want), places(want))
		}
	}
}

// TestChosenAt is of O1: what an `and`, `or` or `if` comes to that is one of its Args is as it was, At and all, wherever that stands.
func TestChosenAt(t *testing.T) {
	yes, no, three, it := is(truth(1)), is(truth(0)), is(number(3)), is(words("it's"))
	b, i, s := col("b"), col("i"), col("t")
	sum := put(6, op("+", put(9, i), put(1, three)))
	holdPlaced(t, [][2]api.Expr{
		// A value.
		{put(4, op("if", put(8, no), put(5, i), put(2, is(number(0))))), put(2, is(number(0)))},
		{put(4, op("if", put(8, yes), put(5, it), put(2, s))), put(5, it)},
		{put(6, op("and", put(1, no), put(9, b))), put(1, no)},
		{put(6, op("or", put(9, yes), put(1, b))), put(9, yes)},
		{put(math.MaxInt, op("or", put(math.MinInt, yes), put(-1, b))), put(math.MinInt, yes)},
		{put(0, op("if", put(-1, no), put(1, i), put(math.MaxInt, three))), put(math.MaxInt, three)},
		{put(7, op("if", yes, three, i)), three},

		// A value, though another Arg stays that has none but values: what goes over, or is below 0.
		{put(4, op("and", put(8, no), over())), put(8, no)},
		{put(4, op("or", put(8, yes), over())), put(8, yes)},
		{put(4, op("if", put(8, yes), put(2, three), op("neg", three))), put(2, three)},
		{put(4, op("if", put(8, no), op("/", three, is(number(0))), put(2, three))), put(2, three)},

		// A column.
		{put(4, op("if", put(8, yes), put(5, i), put(2, three))), put(5, i)},
		{put(4, op("if", put(8, no), put(5, it), put(2, s))), put(2, s)},
		{put(6, op("and", put(1, yes), put(9, b))), put(9, b)},
		{put(6, op("or", put(9, no), put(1, b))), put(1, b)},

		// An operation.
		{put(4, op("if", put(8, yes), sum, put(2, three))), sum},
		{put(4, op("if", put(8, no), put(2, three), sum)), sum},
		{put(6, op("and", put(1, yes), put(9, op("not", put(3, b))))), put(9, op("not", put(3, b)))},
		{put(6, op("or", put(1, no), put(9, op("=", put(3, b), put(2, yes))))), put(9, op("=", put(3, b), put(2, yes)))},
		{put(4, op("if", put(8, yes), put(7, op("neg", put(1, three))), put(2, three))), put(7, op("neg", put(1, three)))},

		// One inside the other.
		{put(4, op("if", put(8, yes), put(7, op("if", put(3, no), put(5, i), put(2, three))), put(6, i))), put(2, three)},
		{put(4, op("if", put(8, no), put(6, i), put(7, op("if", put(3, yes), put(5, i), put(2, three))))), put(5, i)},
		{put(4, op("if", put(8, no), put(6, i), put(7, op("if", put(3, yes), sum, put(2, three))))), sum},
		{put(4, op("and", put(8, op("or", put(3, yes), put(7, b))), put(6, b))), put(6, b)},
		{put(4, op("or", put(8, op("and", put(3, op("or", put(2, yes), put(7, b))), put(5, b))), put(6, b))), put(4, op("or", put(5, b), put(6, b)))},
		{put(4, op("and", put(8, op("and", put(3, op("and", put(2, no), put(7, b))), put(5, b))), put(6, b))), put(2, no)},
		{put(4, op("if", put(8, op("or", put(1, yes), b)), put(7, op("and", put(3, no), put(5, b))), put(6, b))), put(3, no)},
	})
}

// TestSaidAt is of O1: a value that Do says has the At of the node that it stands for, and keeps it where it is chosen behind that.
func TestSaidAt(t *testing.T) {
	yes, no, three, it := is(truth(1)), is(truth(0)), is(number(3)), is(words("it's"))
	b, i, s := col("b"), col("i"), col("t")
	holdPlaced(t, [][2]api.Expr{
		// Behind one that Do says, which has the At of its own node, and ahead of one.
		{put(4, op("if", put(8, op("=", put(1, three), put(2, three))), put(7, it), put(6, s))), put(7, it)},
		{put(4, op("and", put(8, op("not", put(1, yes))), put(7, b))), put(8, no)},
		{put(4, op("or", put(8, op("<", put(1, no), put(2, yes))), put(7, b))), put(8, yes)},
		{put(4, op("if", put(8, yes), put(7, op("+", put(1, three), put(2, three))), put(6, i))), put(7, is(number(6)))},
		{put(4, op("if", put(8, op("not", no)), put(7, op("len", put(1, it))), put(6, i))), put(7, is(number(4)))},
		{put(4, op("neg", put(8, op("if", put(1, no), put(2, i), put(3, is(number(0))))))), put(4, is(number(0)))},
		{put(4, op("+", put(8, op("if", put(1, yes), put(2, three), put(3, i))), put(6, three))), put(4, is(number(6)))},
		{put(4, op("+", put(8, op("if", put(1, yes), put(2, three), put(3, i))), put(6, i))), put(4, op("+", put(2, three), put(6, i)))},
		{put(4, op("not", put(8, op("and", put(1, no), put(2, b))))), put(4, yes)},

		// Do says it, where all Args are values, or have become some.
		{put(4, op("if", put(8, yes), put(5, three), put(2, is(number(0))))), put(4, three)},
		{put(4, op("and", put(8, no), put(5, yes))), put(4, no)},
		{put(4, op("or", put(8, yes), put(5, yes))), put(4, yes)},
		{put(4, op("if", put(8, yes), put(5, three), put(2, op("+", put(1, three), put(7, three))))), put(4, three)},
		{put(4, op("and", put(8, no), put(5, op("or", put(1, yes), put(7, b))))), put(4, no)},
		{put(4, op("if", put(8, yes), put(7, op("if", put(3, yes), put(5, three), put(2, three))), put(6, i))), put(7, three)},
	})
}

// numbered gives each node an At of its own, rising from the first, ahead of those of its Args.
func numbered(e api.Expr, next *int) api.Expr {
	e.At = *next
	*next += 3
	args := e.Args
	e.Args = nil
	for _, a := range args {
		e.Args = append(e.Args, numbered(a, next))
	}
	return e
}

// byPlace are all nodes of an expression by At.
func byPlace(e api.Expr, all map[int]api.Expr) {
	all[e.At] = e
	for _, a := range e.Args {
		byPlace(a, all)
	}
}

// holdAt tells of each node of what came of an expression with an At each, from which it came, and holds it against the rules done from the first node on, each behind its Args.
func holdAt(t *testing.T, e api.Expr, l []api.Col) {
	t.Helper()
	got, err := fold.Fold(e, l)
	if err != nil {
		t.Fatalf("Fold(%s): %v", written(e), err)
	}
	if want := stepwise(e, theFirst); !alike(got, want) {
		t.Errorf("Fold(%s): %s at %v, want %s at %v", written(e), written(got), places(got), written(want), places(want))
	}
	if !slices.IsSorted(places(got)) {
		t.Errorf("Fold(%s): %s at %v", written(e), written(got), places(got))
	}
	from, to := map[int]api.Expr{}, map[int]api.Expr{}
	byPlace(e, from)
	byPlace(got, to)
	if len(to) != tree.Size(got) {
		t.Errorf("Fold(%s): %s at %v", written(e), written(got), places(got))
	}
	for at, n := range to {
		was, ok := from[at]
		if same, _ := fold.Fold(was, l); !ok || !alike(same, n) || n.Op != "val" && n.Op != was.Op {
			t.Errorf("Fold(%s): %s at %d was %s", written(e), written(n), at, written(was))
		}
		// Do says nothing of an operation before all its Args have come to values.
		for _, a := range was.Args {
			if of, _ := fold.Fold(a, l); n.Op == "val" && of.Op != "val" {
				t.Errorf("Fold(%s): %s has the place of %s", written(e), written(n), written(was))
			}
		}
	}
}

// rulesTo are the ops, with the types of their Args, by which something is of a type: i Int, b Bool, t Text.
func rulesTo(of int) []string {
	numbers := "+ii -ii *ii /ii %ii negi lent ifbii"
	truths := "orbb andbb notb =ii <>ii <ii <=ii >ii >=ii =tt <tt >tt =bb <>bb <=bb ifbbb orbb andbb notb notb"
	return strings.Fields([]string{numbers, truths, "ifbtt"}[of-1])
}

// some is an expression by chance, of that type and at most so deep; of ten that have no Args so many are values.
func some(r *rand.Rand, depth, of, values int) api.Expr {
	switch {
	case depth > 1 && r.Intn(5) > 0:
		all := rulesTo(of)
		one := all[r.Intn(len(all))]
		name := one
		for _, o := range kind.Ops() {
			// `<` stands ahead of `<=` too, but leaves one too many there.
			if strings.HasPrefix(one, o) && len(one)-len(o) == countOf(o) {
				name = o
			}
		}
		e := op(name)
		for _, a := range one[len(name):] {
			e.Args = append(e.Args, some(r, depth-1, strings.IndexRune(" ibt", a), values))
		}
		return e
	case r.Intn(10) < values:
		return is(rising[of-1][r.Intn(len(rising[of-1]))])
	}
	return col([][]string{{"i", "abcdefgh"}, {"b", "neg"}, {"t", "col"}}[of-1][r.Intn(2)])
}

// someRow is a row of these columns by chance.
func someRow(r *rand.Rand, l []api.Col) []api.Val {
	var vals []api.Val
	for _, c := range l {
		v := rising[c.Type-1][r.Intn(len(rising[c.Type-1]))]
		if c.Type == api.Int && r.Intn(3) > 0 {
			v = number(r.Intn(9) - 4)
		}
		vals = append(vals, v)
	}
	return vals
}

// TestSome is of O1: expressions, columns and rows by chance; what comes is also written, read again, and short as it is.
func TestSome(t *testing.T) {
	r := rand.New(rand.NewSource(3))
	shorter, values, went := 0, 0, 0
	for range 8_000 {
		e := some(r, 1+r.Intn(8), 1+r.Intn(3), 3+r.Intn(8))
		l := columns()
		r.Shuffle(len(l), func(i, j int) { l[i], l[j] = l[j], l[i] })
		if tree.Size(e) > api.MaxNodes {
			holdWrong(t, e, l, api.ErrFull)
			continue
		}
		vals := [][]api.Val{someRow(r, l), someRow(r, l), someRow(r, l)}
		holdSteps(t, r, e, l, vals...)
		got, _ := fold.Fold(e, l)
		if again, f := tree.Parse(written(got)); f.How != api.ErrFull && (f.How != api.OK || !tree.Same(got, again)) {
			t.Errorf("Fold(%s): %s is read as %s, %v", written(e), written(got), written(again), f)
		}
		if tree.Size(got) < tree.Size(e) {
			shorter++
		}
		if _, ok := fold.Const(got); ok {
			values++
		}
		if _, err := eval.Eval(got, l, vals[0]); err != nil {
			went++
		}
	}
	if shorter < 3_000 || values < 1_500 || went < 500 {
		t.Errorf("%d became shorter, %d are values, %d went over", shorter, values, went)
	}
}

// depth is how many nodes lie below each other at most.
func depth(e api.Expr) int {
	most := 0
	for _, a := range e.Args {
		most = max(most, depth(a))
	}
	return most + 1
}

// to is an expression as deep as it may be, where each has the next one as its Arg of that place.
func to(o string, leaf, end api.Expr, place int) api.Expr {
	e := end
	for range api.MaxDepth - depth(end) {
		args := slices.Repeat([]api.Expr{leaf}, countOf(o))
		args[place] = e
		e = op(o, args...)
	}
	return e
}

// bush has n nodes of an op of two, which must be odd, and is not deep.
func bush(o string, leaf api.Expr, n int) api.Expr {
	if n == 1 {
		return leaf
	}
	left := (n - 1) / 2
	if left%2 == 0 {
		left--
	}
	return op(o, bush(o, leaf, left), bush(o, leaf, n-1-left))
}

// shrub is of `if`s with n nodes, which must be 1 and some times 3, and is not deep.
func shrub(leaf api.Expr, n int) api.Expr {
	if n == 1 {
		return leaf
	}
	third := (n - 1) / 3
	third -= (third - 1) % 3
	return op("if", shrub(leaf, third), shrub(leaf, third), shrub(leaf, n-1-2*third))
}

// holdSame is of expressions that come to one another.
func holdSame(t *testing.T, e, want api.Expr) {
	t.Helper()
	if got := hold(t, e, columns(), rows()...); !tree.Same(got, want) {
		t.Errorf("Fold(%s): %s, want %s", written(e), written(got), written(want))
	}
}

// TestGreat is of O1: expressions as deep and as great as may be, written out.
func TestGreat(t *testing.T) {
	yes, no, b, i, one := is(truth(1)), is(truth(0)), col("b"), col("i"), is(number(1))
	holdSame(t, to("+", one, one, 0), is(number(30)))
	holdSame(t, to("+", one, one, 1), is(number(30)))
	holdSame(t, to("+", one, i, 0), to("+", one, i, 0))
	holdSame(t, to("*", is(number(2)), one, 0), is(number(1<<29)))
	holdSame(t, to("neg", one, one, 0), to("neg", one, one, 0))
	holdSame(t, to("neg", one, is(number(0)), 0), is(number(0)))
	holdSame(t, to("not", b, b, 0), op("not", b))
	holdSame(t, to("not", yes, yes, 0), no)
	holdSame(t, to("and", yes, b, 1), b)
	holdSame(t, to("and", yes, b, 0), to("and", yes, b, 0))
	holdSame(t, to("and", yes, over(), 1), over())
	holdSame(t, to("and", no, over(), 1), no)
	holdSame(t, to("or", no, b, 1), b)
	holdSame(t, to("or", no, over(), 1), over())
	holdSame(t, to("or", yes, over(), 1), yes)
	holdSame(t, to("or", b, over(), 1), to("or", b, over(), 1))
	holdSame(t, to("if", yes, b, 0), to("if", yes, b, 0))
	holdSame(t, to("if", yes, b, 1), b)
	holdSame(t, to("if", no, b, 2), b)
	holdSame(t, to("if", no, over(), 1), no)
	holdSame(t, to("if", yes, over(), 2), yes)
	holdSame(t, to("=", yes, no, 0), no)

	holdSame(t, bush("+", one, 199), is(number(100)))
	holdSame(t, op("neg", bush("+", one, 199)), op("neg", is(number(100))))
	holdSame(t, bush("+", i, 199), bush("+", i, 199))
	holdSame(t, op("neg", bush("+", i, 199)), op("neg", bush("+", i, 199)))
	holdSame(t, bush("and", yes, 199), yes)
	holdSame(t, op("not", bush("or", no, 199)), yes)
	holdSame(t, bush("or", b, 199), bush("or", b, 199))
	holdSame(t, op("not", op("not", bush("or", b, 197))), bush("or", b, 197))
	holdSame(t, shrub(yes, 199), yes)
	holdSame(t, shrub(b, 199), shrub(b, 199))
	holdSame(t, bush("=", op("not", op("not", b)), 99), bush("=", b, 99))
	holdSame(t, op("if", yes, i, bush("+", i, 197)), i)
	holdSame(t, op("if", no, i, bush("+", i, 197)), bush("+", i, 197))
	holdSame(t, op("if", no, is(words(long(40))), is(words(strings.Repeat("'", 40)))), is(words(strings.Repeat("'", 40))))
}

// TestGreatSome is of O1: as deep and as great, of each op, from each side, held against the rules done one by one.
func TestGreatSome(t *testing.T) {
	r := rand.New(rand.NewSource(4))
	right := 0
	ends := []api.Expr{is(truth(0)), is(truth(1)), col("b"), over(), op("not", col("b"))}
	for _, o := range []string{"or", "and", "not", "=", "if"} {
		for place := range countOf(o) {
			for _, args := range choices(ends, 2) {
				if e := to(o, args[0], args[1], place); tree.Check(e) == nil {
					holdSteps(t, r, e, columns(), rows()...)
					right++
				}
			}
		}
	}
	ends = []api.Expr{is(number(0)), is(number(1)), is(number(math.MaxInt)), col("i"), op("neg", is(number(1))), op("/", is(number(1)), is(number(0)))}
	for _, o := range []string{"+", "-", "*", "/", "%", "neg"} {
		for place := range countOf(o) {
			for _, args := range choices(ends, 2) {
				if e := to(o, args[0], args[1], place); tree.Check(e) == nil {
					holdSteps(t, r, e, columns(), rows()...)
					right++
				}
			}
		}
	}
	if right < 350 {
		t.Errorf("only %d are right", right)
	}
	for _, o := range []string{"+", "-", "*", "/", "%"} {
		for _, leaf := range ends[:4] {
			holdSteps(t, r, bush(o, leaf, 199), columns(), rows()...)
			holdSteps(t, r, op("neg", bush(o, leaf, 199)), columns(), rows()...)
		}
	}
}

// TestWordColumns is of O1: a schema may have words of the language as names, and the other columns are found beside them.
func TestWordColumns(t *testing.T) {
	l := []api.Col{{Name: "sum", Type: api.Text}, {Name: "true", Type: api.Bool}, {Name: "i", Type: api.Int}}
	r := []api.Val{words("s"), truth(0), number(9)}
	hold(t, op("+", col("i"), op("+", is(number(1)), is(number(1)))), l, r)
	hold(t, op("and", is(truth(1)), op("=", col("i"), is(number(9)))), l, r)
	holdWrong(t, col("sum"), l, api.ErrSyntax)
}

// holdWrong is of P1 too: nothing stands beside an error.
func holdWrong(t *testing.T, e api.Expr, l []api.Col, want api.Errno) {
	t.Helper()
	if got, err := fold.Fold(e, l); !alike(got, api.Expr{}) || plain.Told(err) != want {
		t.Errorf("Fold(%s, %s): %s, %v, want %v", brief(e), brief(l), brief(got), err, want)
	}
}

// wrong is an expression, and what is to be told of it.
type wrong struct {
	e    api.Expr
	want api.Errno
}

// unformed are expressions of which chapter 4's Check tells something.
func unformed() []wrong {
	return []wrong{
		{api.Expr{}, api.ErrSyntax},
		{api.Expr{At: 9}, api.ErrSyntax},
		{op("nor", col("b"), col("b")), api.ErrSyntax},
		{op("not", api.Expr{}), api.ErrSyntax},
		{op("OR", is(truth(1)), is(truth(1))), api.ErrSyntax},
		{col(""), api.ErrSyntax},
		{col("or"), api.ErrSyntax},
		{col("most"), api.ErrSyntax},
		{col("a1"), api.ErrSyntax},
		{col("A"), api.ErrSyntax},
		{col("abcdefghi"), api.ErrSyntax},
		{col(long(100_000)), api.ErrSyntax},
		{is(words("\n")), api.ErrSyntax},
		{op("+", col("i")), api.ErrShape},
		{op("+", col("i"), col("i"), col("i")), api.ErrShape},
		{op("not"), api.ErrShape},
		{op("if"), api.ErrShape},
		{api.Expr{Op: "val", Val: number(1), Args: []api.Expr{col("i")}}, api.ErrShape},
		{api.Expr{Op: "val", Val: number(1), Name: "i"}, api.ErrShape},
		{api.Expr{Op: "col", Name: "i", Val: number(1)}, api.ErrShape},
		{api.Expr{Op: "col", Name: "i", Args: []api.Expr{col("i")}}, api.ErrShape},
		{api.Expr{Op: "not", Name: "b", Args: []api.Expr{col("b")}}, api.ErrShape},
		{is(api.Val{Type: api.Int, S: "1"}), api.ErrShape},
		{is(api.Val{Type: api.Text, N: 1}), api.ErrShape},
		{op("val"), api.ErrRange},
		{is(api.Val{Type: 4}), api.ErrRange},
		{is(number(-1)), api.ErrRange},
		{is(number(math.MinInt)), api.ErrRange},
		{is(truth(2)), api.ErrRange},
		{is(words(long(41))), api.ErrFull},
		{op("not", to("not", col("b"), col("b"), 0)), api.ErrFull},
		{op("not", to("not", is(truth(1)), is(truth(1)), 0)), api.ErrFull},
		{bush("+", col("i"), 201), api.ErrFull},
		{bush("+", is(number(1)), 201), api.ErrFull},
		{op("neg", op("neg", bush("+", col("i"), 199))), api.ErrFull},

		// Of all nodes, also of those that are not needed; the first of them, each ahead of its Args; what is too great ahead of all.
		{op("if", is(truth(1)), is(number(1)), is(number(-1))), api.ErrRange},
		{op("if", is(truth(0)), op("not"), is(number(1))), api.ErrShape},
		{op("and", is(truth(0)), col("or")), api.ErrSyntax},
		{op("or", is(truth(1)), is(words(long(41)))), api.ErrFull},
		{op("+", is(number(-1)), op("not")), api.ErrRange},
		{op("+", op("not"), is(number(-1))), api.ErrShape},
		{op("not", is(number(-1)), col("or")), api.ErrShape},
		{op("nor", bush("+", col("or"), 201)), api.ErrFull},
	}
}

// untyped are expressions that are formed as they must be, and what chapter 5's Of tells of them over the columns.
func untyped() []wrong {
	return []wrong{
		{col("zz"), api.ErrNone},
		{op("not", col("i")), api.ErrType},
		{op("+", col("i"), col("t")), api.ErrType},
		{op("+", is(number(1)), is(truth(1))), api.ErrType},
		{op("=", is(number(1)), is(words("1"))), api.ErrType},
		{op("len", is(number(1))), api.ErrType},
		{op("neg", is(truth(0))), api.ErrType},
		{op("not", op("not", is(number(1)))), api.ErrType},
		{op("if", is(number(1)), is(number(1)), is(number(1))), api.ErrType},

		// Of all nodes, also of those that are not needed; the first, where each comes behind its Args.
		{op("and", is(truth(0)), col("zz")), api.ErrNone},
		{op("and", is(truth(0)), is(number(1))), api.ErrType},
		{op("or", is(truth(1)), is(number(1))), api.ErrType},
		{op("if", is(truth(1)), is(number(1)), is(words(""))), api.ErrType},
		{op("if", is(truth(0)), col("zz"), is(number(1))), api.ErrNone},
		{op("if", is(truth(1)), is(number(1)), op("+", col("b"), col("zz"))), api.ErrNone},
		{op("+", op("/", is(number(1)), is(number(0))), col("zz")), api.ErrNone},
		{op("not", op("/", is(number(1)), is(number(0)))), api.ErrType},
		{op("+", op("not", col("i")), col("zz")), api.ErrType},
		{op("+", col("zz"), op("not", col("i"))), api.ErrNone},
		{op("not", op("+", col("i"), col("zz"))), api.ErrNone},
	}
}

// TestFoldWrong is of O1, P1 and P3: Of's How, written out and as Of tells it.
func TestFoldWrong(t *testing.T) {
	told := map[api.Errno]int{}
	for _, c := range slices.Concat(unformed(), untyped()) {
		if _, f := kind.Of(c.e, columns()); f.How != c.want {
			t.Errorf("Of(%s): %v, want %v", brief(c.e), f, c.want)
		}
		told[c.want]++
		holdWrong(t, c.e, columns(), c.want)
	}
	for _, want := range []api.Errno{api.ErrSyntax, api.ErrShape, api.ErrRange, api.ErrFull, api.ErrNone, api.ErrType} {
		if told[want] < 3 {
			t.Errorf("only %d are %v", told[want], want)
		}
	}
}

// TestFoldSchema is of O1, P1 and P3: columns that are none, behind Check of the expression and ahead of what is of which type, also where no column is asked.
func TestFoldSchema(t *testing.T) {
	i := api.Col{Name: "i", Type: api.Int}
	for _, c := range []struct {
		l    []api.Col
		want api.Errno
	}{
		{nil, api.ErrNone},
		{[]api.Col{}, api.ErrNone},
		{append(columns(), api.Col{Name: "x", Type: api.Int}), api.ErrFull},
		{make([]api.Col, 100_000), api.ErrFull},
		{[]api.Col{{}}, api.ErrSyntax},
		{[]api.Col{i, {Name: "I", Type: api.Int}}, api.ErrSyntax},
		{[]api.Col{i, {Name: "j", Type: 4}}, api.ErrRange},
		{[]api.Col{i, i}, api.ErrClash},
	} {
		for _, e := range []api.Expr{is(number(1)), op("+", is(number(1)), is(number(1))), over(), col("i"), col("zz"), op("not", is(number(1)))} {
			holdWrong(t, e, c.l, c.want)
		}
		holdWrong(t, is(number(-1)), c.l, api.ErrRange)
		holdWrong(t, op("not"), c.l, api.ErrShape)
	}
}

// TestConst is of O1: a value and which; anything else is none, also what would come to one.
func TestConst(t *testing.T) {
	for _, v := range slices.Concat(rising...) {
		for _, at := range []int{0, 5, -1, math.MaxInt} {
			if got, ok := fold.Const(api.Expr{Op: "val", Val: v, At: at}); got != v || !ok {
				t.Errorf("Const of %v: %v, %v", v, got, ok)
			}
		}
	}
	others := []api.Expr{
		{}, col("i"), col("val"), op("neg", is(number(1))), op("not", is(truth(1))), op("+", is(number(1)), is(number(2))), op("if", is(truth(1)), is(number(1)), is(number(2))),
		{Val: number(1)}, {Op: "col", Name: "i", Val: number(1)}, {Op: "Val", Val: number(1)}, {Op: "val ", Val: number(1)}, {Op: "va", Val: number(1)}, {Op: "\xff", Val: words("x")},
		{Name: "val", Val: number(1)}, {Op: "not", Val: truth(1), Args: []api.Expr{is(truth(1))}}, {Op: long(100_000), Val: truth(1)}, {Op: "+", Args: make([]api.Expr, 100_000)},
	}
	for _, o := range kind.Ops() {
		others = append(others, op(o), op(o, is(number(1))), api.Expr{Op: o, Val: number(1)})
	}
	for _, e := range others {
		if got, ok := fold.Const(e); got != (api.Val{}) || ok {
			t.Errorf("Const(%s): %v, %v", brief(e), got, ok)
		}
	}
}

// TestConstAny is of O1 and P1: the Op alone tells, whatever else there is.
func TestConstAny(t *testing.T) {
	for _, v := range []api.Val{{}, number(-1), truth(2), {Type: 9, N: 9, S: "\n"}, words(long(100_000))} {
		if got, ok := fold.Const(api.Expr{Op: "val", Name: "x", Val: v, Args: []api.Expr{col("i")}}); got != v || !ok {
			t.Errorf("Const of %s: %s, %v", brief(v), brief(got), ok)
		}
	}
}

// TestConstFold is of O1: what is made short is a value just where it stands alone.
func TestConstFold(t *testing.T) {
	for text, want := range map[string]api.Val{
		"1 + 2": number(3), "not not false": truth(0), "if(true, 'x', t)": words("x"), "true or b": truth(1), "- 0": number(0), "len('ab')": number(2),
		"i": {}, "- 1": {}, "1 / 0": {}, "b and false": {}, "i * 0": {}, "2 - 3 + 5": {},
	} {
		e, _ := fold.Fold(read(t, text), columns())
		if got, ok := fold.Const(e); got != want || ok != (want != api.Val{}) {
			t.Errorf("Const of %q: %v, %v, want %v", text, got, ok, want)
		}
	}
}

// holdUses is of P1 too: nothing stands beside an error.
func holdUses(t *testing.T, e api.Expr, want []string, told api.Errno) {
	t.Helper()
	if got, err := fold.Uses(e); !slices.Equal(got, want) || plain.Told(err) != told {
		t.Errorf("Uses(%s): %q, %v, want %q, %v", brief(e), got, err, want, told)
	}
}

// TestUses is of O1: the names of all columns, each once, by bytes; of none what it is of is asked.
func TestUses(t *testing.T) {
	for text, want := range map[string]string{
		"5": "", "'a'": "", "true": "", "1 + 2": "", "if(true, 'a', 'b')": "",
		"a": "a", "a + a": "a", "a + b": "a b", "b + a": "a b", "b + a + b": "a b", "c * (b - (a + c))": "a b c",
		"z + aa + ab + a + b + zz + y": "a aa ab b y z zz", "abcdefgh + abcdefg + abcdefgi": "abcdefg abcdefgh abcdefgi", "zzzzzzzz < zzzzzzz": "zzzzzzz zzzzzzzz",
		"val + col + neg": "col neg val", "not a": "a", "- a": "a", "len(a)": "a", "if(c, b, a)": "a b c", "x and y or x": "x y", "not not not q": "q",

		// What is not needed is in it too, and so is what has no type.
		"false and b": "b", "true or b": "b", "if(true, 1, i)": "i", "1 / 0 = a": "a", "not a = b and c or d": "a b c d", "a + 'x'": "a", "len(1) + u": "u", "- (true and v)": "v",
		"g + f + e + d + c + b + a + h + i": "a b c d e f g h i",
	} {
		holdUses(t, read(t, text), strings.Fields(want), api.OK)
	}
}

// TestUsesGreat is of O1: as deep and as great as may be, with as many names as that has room for.
func TestUsesGreat(t *testing.T) {
	holdUses(t, to("not", col("b"), col("b"), 0), []string{"b"}, api.OK)
	holdUses(t, to("+", col("z"), col("a"), 0), []string{"a", "z"}, api.OK)
	holdUses(t, to("+", col("a"), col("z"), 1), []string{"a", "z"}, api.OK)
	holdUses(t, bush("+", col("a"), 199), []string{"a"}, api.OK)
	holdUses(t, bush("+", is(number(1)), 199), nil, api.OK)
	var names []string
	for n := range 100 {
		names = append(names, strings.Repeat(string(rune('a'+n%26)), 1+n/26))
	}
	left := slices.Clone(names)
	var named func(e api.Expr) api.Expr
	named = func(e api.Expr) api.Expr {
		if e.Op == "col" {
			e.Name = left[0]
			left = left[1:]
		}
		for i, a := range e.Args {
			e.Args[i] = named(a)
		}
		return e
	}
	e := op("neg", named(bush("+", col("a"), 199)))
	slices.Sort(names)
	holdUses(t, e, names, api.OK)
}

// usedIn are the names in what is written, told by its words.
func usedIn(t *testing.T, text string) []string {
	t.Helper()
	l, f := lex.Tokens(text)
	if f.How != api.OK {
		t.Fatalf("Tokens(%q): %v", text, f)
	}
	var names []string
	for _, w := range l {
		if w.Kind == api.Word && !slices.Contains([]string{"or", "and", "not", "true", "false", "len", "if"}, w.Text) {
			names = append(names, w.Text)
		}
	}
	slices.Sort(names)
	return slices.Compact(names)
}

// TestUsesSome is of O1: expressions by chance, and of what is made of them no names but those.
func TestUsesSome(t *testing.T) {
	r := rand.New(rand.NewSource(5))
	times := map[int]int{}
	for range 5_000 {
		e := some(r, 1+r.Intn(5), 1+r.Intn(3), 5)
		text := written(e)
		if len(text) > api.MaxQuery {
			continue
		}
		want := usedIn(t, text)
		times[len(want)]++
		holdUses(t, e, want, api.OK)
		short, _ := fold.Fold(e, columns())
		left, err := fold.Uses(short)
		if err != nil || !slices.Equal(left, usedIn(t, written(short))) || slices.ContainsFunc(left, func(s string) bool { return !slices.Contains(want, s) }) {
			t.Errorf("Uses(%s): %v, %v, and of %s %v", written(short), left, err, text, want)
		}
	}
	for n := range 6 {
		if times[n] < 100 {
			t.Errorf("only %d times %d names", times[n], n)
		}
	}
}

// TestUsesWrong is of O1, P1 and P3: each error of Check, and none of Of's own.
func TestUsesWrong(t *testing.T) {
	for _, c := range unformed() {
		if err := tree.Check(c.e); plain.Told(err) != c.want {
			t.Errorf("Check(%s): %v, want %v", brief(c.e), err, c.want)
		}
		holdUses(t, c.e, nil, c.want)
		if c.want != api.ErrFull {
			holdUses(t, op("+", col("i"), c.e), nil, c.want)
		}
	}
	for _, c := range untyped() {
		if _, err := fold.Uses(c.e); err != nil {
			t.Errorf("Uses(%s): %v", brief(c.e), err)
		}
	}
}

// TestEndless is of P1: what is far too great, or stands within itself, or lies deeper than calls could go, is too great.
func TestEndless(t *testing.T) {
	// Calls as deep as this would need far more.
	defer debug.SetMaxStack(debug.SetMaxStack(8 << 20))
	doubled, deep := col("i"), is(truth(1))
	for range 100 {
		doubled = op("+", doubled, doubled)
	}
	for range 500_000 {
		deep = op("not", deep)
	}
	own := make([]api.Expr, 1)
	own[0] = op("neg", own...)
	both := make([]api.Expr, 2)
	both[0], both[1] = is(truth(0)), op("and", both...)
	for i, e := range []api.Expr{doubled, own[0], both[1], deep, {Op: "if", Args: make([]api.Expr, 100_000)}} {
		for _, l := range [][]api.Col{columns(), nil} {
			if got, err := fold.Fold(e, l); !alike(got, api.Expr{}) || plain.Told(err) != api.ErrFull {
				t.Errorf("Fold of endless %d: %s, %v, want ErrFull", i, got.Op, err)
			}
		}
		if got, err := fold.Uses(e); len(got) > 0 || plain.Told(err) != api.ErrFull {
			t.Errorf("Uses of endless %d: %v, %v, want ErrFull", i, got, err)
		}
		if got, ok := fold.Const(e); got != (api.Val{}) || ok {
			t.Errorf("Const of endless %d: %v, %v", i, got, ok)
		}
		if got, ok := fold.Const(api.Expr{Op: "val", Val: number(1), Args: []api.Expr{e}}); got != number(1) || !ok {
			t.Errorf("Const above endless %d: %v, %v", i, got, ok)
		}
	}
}

// anything is an expression by chance, of which hardly any is right.
func anything(r *rand.Rand, depth int) api.Expr {
	ops := append(kind.Ops(), "val", "val", "val", "col", "col", "", "nor")
	e := api.Expr{Op: ops[r.Intn(len(ops))], At: r.Intn(9) - 4}
	switch {
	case e.Op == "val":
		e.Val = api.Val{Type: r.Intn(4), N: r.Intn(3)}
		if e.Val.Type == api.Text {
			e.Val = words(strings.Repeat("x", r.Intn(42)))
		}
	case e.Op == "col":
		e.Name = []string{"i", "b", "t", "zz", "or", ""}[r.Intn(6)]
	case depth > 1:
		for range []int{1, 2, 3, r.Intn(5), countOf(e.Op), countOf(e.Op), countOf(e.Op)}[r.Intn(7)] {
			e.Args = append(e.Args, anything(r, depth-1))
		}
	}
	return e
}

// TestAnything is of P1: no call panics; of what is wrong it tells what Of and Check tell, and of what is right all of O1 is so.
func TestAnything(t *testing.T) {
	r := rand.New(rand.NewSource(6))
	times := map[api.Errno]int{}
	for range 50_000 {
		e := anything(r, 1+r.Intn(4))
		l := columns()[:r.Intn(7)]
		_, f := kind.Of(e, l)
		times[f.How]++
		if f.How == api.OK {
			holdSteps(t, r, e, l, someRow(r, l))
		} else {
			holdWrong(t, e, l, f.How)
		}
		if got, err := fold.Uses(e); plain.Told(err) != plain.Told(tree.Check(e)) || err != nil && len(got) > 0 {
			t.Errorf("Uses(%s): %v, %v", brief(e), got, err)
		}
		if got, ok := fold.Const(e); ok != (e.Op == "val") || ok && got != e.Val || !ok && got != (api.Val{}) {
			t.Errorf("Const(%s): %v, %v", brief(e), got, ok)
		}
	}
	for _, told := range []api.Errno{api.OK, api.ErrRange, api.ErrSyntax, api.ErrShape, api.ErrFull, api.ErrNone, api.ErrType} {
		if times[told] < 50 {
			t.Errorf("only %d times %v", times[told], told)
		}
	}
}

// roomy has room behind each of its lists, and something in it.
func roomy(e api.Expr) api.Expr {
	args := make([]api.Expr, len(e.Args), len(e.Args)+2)
	for i, a := range e.Args {
		args[i] = roomy(a)
	}
	for i := range 2 {
		args[:cap(args)][len(args)+i] = col("behind")
	}
	e.Args = args
	return e
}

// behind tells whether all that roomy laid is as it was.
func behind(e api.Expr) bool {
	so := slices.EqualFunc(e.Args[len(e.Args):cap(e.Args)], []api.Expr{col("behind"), col("behind")}, alike)
	for _, a := range e.Args {
		so = so && behind(a)
	}
	return so
}

// samples are expressions, right and wrong.
func samples() []api.Expr {
	l := []api.Expr{
		col("behind"), bush("and", is(truth(1)), 199), bush("+", col("i"), 199), shrub(col("b"), 199), to("not", col("b"), col("b"), 0), to("if", is(truth(0)), over(), 2),
	}
	r := rand.New(rand.NewSource(7))
	for range 200 {
		l = append(l, some(r, 5, 1+r.Intn(3), 5))
	}
	for _, c := range slices.Concat(unformed(), untyped()) {
		l = append(l, c.e)
	}
	return l
}

// TestListsStay is of P2 and P4: what is handed in stays as it is, and what lies behind its length is neither read nor written.
func TestListsStay(t *testing.T) {
	for _, e := range samples() {
		for n := range len(columns()) + 1 {
			want, told := fold.Fold(e, slices.Clone(columns()[:n]))
			handed, cols := roomy(e), columns()
			got, err := fold.Fold(handed, cols[:n])
			if !alike(got, want) || err != told {
				t.Errorf("Fold(%s) over %d: %s, %v, want %s, %v", brief(e), n, brief(got), err, brief(want), told)
			}
			if !alike(handed, e) || !behind(handed) || !slices.Equal(cols, columns()) {
				t.Errorf("Fold(%s) wrote into what it was given", brief(e))
			}
		}
		names, told := fold.Uses(e)
		handed := roomy(e)
		holdUses(t, handed, names, plain.Told(told))
		v, is := fold.Const(e)
		if got, ok := fold.Const(handed); got != v || ok != is {
			t.Errorf("Const(%s): %v, %v, want %v, %v", brief(e), got, ok, v, is)
		}
		if !alike(handed, e) || !behind(handed) {
			t.Errorf("Uses or Const of %s wrote into it", brief(e))
		}
	}
}

// memory adds up what lies in the lists of an expression, and in its texts.
func memory(e api.Expr, lists map[*api.Expr]int, texts map[*byte]int) {
	for _, s := range []string{e.Op, e.Name, e.Val.S} {
		if s != "" {
			texts[unsafe.StringData(s)]++
		}
	}
	for i := range e.Args[:cap(e.Args)] {
		lists[&e.Args[:cap(e.Args)][i]]++
	}
	for _, a := range e.Args {
		memory(a, lists, texts)
	}
}

// apart is an expression all of whose texts have memory of their own, which no text of a program's has.
func apart(e api.Expr) api.Expr {
	e.Op, e.Name, e.Val.S = strings.Clone(e.Op), strings.Clone(e.Name), strings.Clone(e.Val.S)
	for i, a := range e.Args {
		e.Args[i] = apart(a)
	}
	return e
}

// TestFresh is of P2: what comes out shares no memory with what was handed in, and no two of its lists share any, also where those that were handed in do.
func TestFresh(t *testing.T) {
	shared := []api.Expr{col("i"), op("+", col("i"), is(number(1)))}
	all := append(samples(),
		op("+", op("+", shared...), op("+", shared...)),
		op("if", op("=", shared...), op("-", shared...), op("-", shared...)),
		op("if", is(truth(1)), op("-", shared...), op("-", shared...)),
		op("not", op("not", op("=", shared...))),
		op("if", col("b"), is(words("it's")), col("t")),
		op("if", is(truth(0)), col("t"), is(words("it's"))),
		is(words("it's")), col("col"),
	)
	right := 0
	for _, e := range all {
		e = apart(e)
		got, err := fold.Fold(e, columns())
		if err != nil {
			continue
		}
		right++
		lists, texts := map[*api.Expr]int{}, map[*byte]int{}
		memory(e, lists, texts)
		outLists, outTexts := map[*api.Expr]int{}, map[*byte]int{}
		memory(got, outLists, outTexts)
		for p, times := range outLists {
			if times > 1 || lists[p] > 0 {
				t.Errorf("Fold(%s): %s shares a list", written(e), written(got))
			}
		}
		for p := range outTexts {
			if texts[p] > 0 {
				t.Errorf("Fold(%s): %s shares a text", written(e), written(got))
			}
		}
		if v, ok := fold.Const(got); ok && v.S != "" && outTexts[unsafe.StringData(v.S)] > 0 {
			t.Errorf("Const(%s) shares its text", written(got))
		}
		names, _ := fold.Uses(got)
		for _, s := range names {
			if outTexts[unsafe.StringData(s)] > 0 {
				t.Errorf("Uses(%s) shares %s", written(got), s)
			}
		}
	}
	if right < 200 {
		t.Errorf("only %d are right", right)
	}
}

// TestNothingKept is of P2: what is done afterwards with what was handed in, or handed out, changes no other answer.
func TestNothingKept(t *testing.T) {
	make1 := func() api.Expr {
		return op("if", col("b"), op("or", col("neg"), op("and", is(truth(1)), is(truth(1)))), op("not", op("not", col("neg"))))
	}
	want := op("if", col("b"), op("or", col("neg"), api.Expr{Op: "val", Val: truth(1), At: 5}), col("neg"))
	e, l := make1(), columns()
	first, _ := fold.Fold(e, l)
	second, _ := fold.Fold(e, l)
	names, _ := fold.Uses(e)
	others, _ := fold.Uses(e)
	clear(second.Args[1].Args[:cap(second.Args[1].Args)])
	clear(second.Args[:cap(second.Args)])
	clear(others[:cap(others)])
	e.Args[1].Args[1], l[2].Type, l[3].Name = is(number(9)), api.Int, "zz"
	if !alike(first, want) || !slices.Equal(names, []string{"b", "neg"}) {
		t.Errorf("what was told became %v, %v", first, names)
	}
	holdWrong(t, e, l, api.ErrNone)
	e.Args[2] = col("other")
	holdUses(t, e, []string{"b", "neg", "other"}, api.OK)
	clear(e.Args)
	clear(l)
	holdWrong(t, e, l, api.ErrSyntax)
	holdUses(t, e, nil, api.ErrSyntax)
	if third, err := fold.Fold(make1(), columns()); !alike(third, want) || !alike(first, want) || err != nil {
		t.Errorf("then it is %v, %v, want %v", third, err, want)
	}
	holdUses(t, make1(), []string{"b", "neg"}, api.OK)
}

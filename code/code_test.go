package code_test

import (
	"fmt"
	"math"
	"math/rand"
	"runtime/debug"
	"slices"
	"strconv"
	"strings"
	"testing"

	"sluicebook/api"
	"sluicebook/code"
	"sluicebook/eval"
	"sluicebook/kind"
	"sluicebook/plain"
	"sluicebook/tree"
	"sluicebook/val"
)

func number(n int) api.Val   { return api.Val{Type: api.Int, N: n} }
func truth(n int) api.Val    { return api.Val{Type: api.Bool, N: n} }
func words(s string) api.Val { return api.Val{Type: api.Text, S: s} }

// long is a text of so many bytes.
func long(n int) string { return strings.Repeat("z", n) }

// brief is the beginning of what is told of something, which may be very great.
func brief(a any) string { return fmt.Sprintf("%.300q", fmt.Sprint(a)) }

// operations are the Ops by their numbers; "": there is none here.
var operations = []string{"", "", "not", "=", "<>", "<", "<=", ">", ">=", "+", "-", "*", "/", "%", "neg", "len", ""}

// opOf is the operation of any number.
func opOf(n int) string {
	if n < 0 || n >= len(operations) {
		return ""
	}
	return operations[n]
}

// numbers are such that are near and far off.
func numbers() []int {
	l := []int{math.MinInt, math.MinInt + 2, -1 << 32, -1<<32 + 2, -256 + 9, 256 + 9, 1 << 31, 1<<32 + 2, 1<<32 + 9, 1<<63 - 17, math.MaxInt - 1, math.MaxInt}
	for n := -300; n <= 300; n++ {
		l = append(l, n)
	}
	return l
}

// TestOp is of K1, P1 and P3: the operation of each number, and ErrRange of any other, also of those of `or`, `and`, `if`.
func TestOp(t *testing.T) {
	right := 0
	for _, n := range numbers() {
		want, told := opOf(n), api.ErrRange
		if want != "" {
			told = api.OK
			right++
		}
		if got, err := code.Op(n); got != want || plain.Told(err) != told {
			t.Errorf("Op(%d): %q, %v, want %q, %v", n, got, err, want, told)
		}
	}
	if right != 14 {
		t.Errorf("%d numbers are right", right)
	}
}

// TestOpOps is of K1: the numbers are those of chapter 5's Ops.
func TestOpOps(t *testing.T) {
	for n, want := range kind.Ops() {
		if want == "or" || want == "and" || want == "if" {
			want = ""
		}
		if got, _ := code.Op(n); got != want {
			t.Errorf("Op(%d): %q, want %q", n, got, want)
		}
	}
}

func push(v api.Val) api.Instr { return api.Instr{What: api.Push, Val: v} }
func load(n int) api.Instr     { return api.Instr{What: api.Load, Arg: n} }
func do(n int) api.Instr       { return api.Instr{What: api.Do, Arg: n} }
func jump(n int) api.Instr     { return api.Instr{What: api.Jump, Arg: n} }
func other(n int) api.Instr    { return api.Instr{What: api.Else, Arg: n} }
func keep() api.Instr          { return api.Instr{What: api.Keep} }
func drop() api.Instr          { return api.Instr{What: api.Drop} }

func holdPrint(t *testing.T, l []api.Instr, want string) {
	t.Helper()
	if got := code.Print(l); got != want {
		t.Errorf("Print(%s): %s, want %s", brief(l), brief(got), brief(want))
	}
}

// pushes are values, right and wrong, and how a Push of them is written.
var pushes = []struct {
	v    api.Val
	want string
}{
	{number(0), "push 0"},
	{number(-3), "push -3"},
	{number(301), "push 301"},
	{number(math.MaxInt), "push 9223372036854775807"},
	{number(math.MinInt), "push -9223372036854775808"},
	{truth(0), "push false"},
	{truth(1), "push true"},
	{words(""), "push ''"},
	{words(" "), "push ' '"},
	{words("a b"), "push 'a b'"},
	{words("?"), "push '?'"},
	{words("it's"), "push 'it''s'"},
	{words("'"), "push ''''"},
	{words("~"), "push '~'"},
	{words(long(40)), "push '" + long(40) + "'"},
	{words(strings.Repeat("'", 40)), "push '" + strings.Repeat("'", 80) + "'"},

	{api.Val{}, "?"},
	{api.Val{Type: 4}, "?"},
	{api.Val{Type: -1}, "?"},
	{api.Val{Type: math.MinInt}, "?"},
	{api.Val{Type: math.MaxInt}, "?"},
	{api.Val{Type: 1 << 32, N: 1}, "?"},
	{api.Val{Type: api.Int, S: "1"}, "?"},
	{api.Val{Type: api.Bool, N: 1, S: "true"}, "?"},
	{api.Val{Type: api.Text, N: 1}, "?"},
	{api.Val{Type: api.Text, N: 1, S: "a"}, "?"},
	{truth(2), "?"},
	{truth(-1), "?"},
	{truth(math.MinInt), "?"},
	{words("\n"), "?"},
	{words("a\nb"), "?"},
	{words("\x00"), "?"},
	{words("\x7f"), "?"},
	{words("\u00e9"), "?"},
	{words("\xff"), "?"},
	{words(long(41)), "?"},
	{words(long(100_000)), "?"},
}

// lineOf is how an instruction is to be written, without its end.
func lineOf(in api.Instr) string {
	words := []string{"", "push", "load", "do", "jump", "else", "keep", "drop"}
	if in.What < api.Push || in.What > api.Drop {
		return "?"
	}
	word := words[in.What]
	switch in.What {
	case api.Push:
		text, err := val.Print(in.Val)
		if err != nil {
			return "?"
		}
		return word + " " + text
	case api.Do:
		if opOf(in.Arg) == "" {
			return "?"
		}
		return word + " " + opOf(in.Arg)
	case api.Keep, api.Drop:
		return word
	}
	return fmt.Sprintf("%s %d", word, in.Arg)
}

// TestPrintOne is of K1: each instruction with each Arg, near and far off, and whatever value it does not need.
func TestPrintOne(t *testing.T) {
	for _, v := range []api.Val{{}, number(-1), words("x"), {Type: 9, N: 9, S: "\n"}} {
		for _, n := range numbers() {
			does := "?"
			if opOf(n) != "" {
				does = "do " + opOf(n)
			}
			digits := strconv.Itoa(n)
			for what, want := range []string{"?", "", "load " + digits, does, "jump " + digits, "else " + digits, "keep", "drop", "?", "?"} {
				if what != api.Push {
					holdPrint(t, []api.Instr{{What: what, Arg: n, Val: v}}, want+"\n")
				}
			}
		}
	}
	for _, c := range pushes {
		for _, n := range []int{0, 1, -1, math.MinInt, math.MaxInt} {
			holdPrint(t, []api.Instr{{What: api.Push, Arg: n, Val: c.v}}, c.want+"\n")
		}
	}
}

// TestPrintWhat is of K1: a What that is none, near and far off, whatever else it has.
func TestPrintWhat(t *testing.T) {
	for _, n := range numbers() {
		if n >= api.Push && n <= api.Drop {
			continue
		}
		for _, in := range []api.Instr{{}, load(0), do(9), push(number(1)), {Arg: -5, Val: words("\n")}} {
			in.What = n
			holdPrint(t, []api.Instr{in}, "?\n")
		}
	}
}

// TestPrintAll is of K1: one behind the other, right or not, written out.
func TestPrintAll(t *testing.T) {
	holdPrint(t, nil, "")
	holdPrint(t, []api.Instr{}, "")
	holdPrint(t, make([]api.Instr, 3), "?\n?\n?\n")
	holdPrint(t, []api.Instr{push(words("a")), keep(), do(3), other(2), load(1), jump(1), push(truth(1))},
		"push 'a'\nkeep\ndo =\nelse 2\nload 1\njump 1\npush true\n")
	holdPrint(t, []api.Instr{drop(), jump(-1), do(0), do(1), do(16), do(17), do(-1), push(api.Val{}), load(6), load(-6), other(-1), {What: 8}, keep()},
		"drop\njump -1\n?\n?\n?\n?\n?\n?\nload 6\nload -6\nelse -1\n?\nkeep\n")
}

// anyInstr is an instruction by chance, right or not.
func anyInstr(r *rand.Rand) api.Instr {
	return api.Instr{What: r.Intn(10) - 1, Arg: r.Intn(22) - 2, Val: pushes[r.Intn(len(pushes))].v}
}

// TestPrintMany is of K1 and P1: lists by chance, and one far longer than code may be.
func TestPrintMany(t *testing.T) {
	r := rand.New(rand.NewSource(1))
	for range 2_000 {
		var l []api.Instr
		want := ""
		for range r.Intn(20) {
			l = append(l, anyInstr(r))
			want += lineOf(l[len(l)-1]) + "\n"
		}
		holdPrint(t, l, want)
	}
	holdPrint(t, slices.Repeat([]api.Instr{do(9), keep()}, 200_000), strings.Repeat("do +\nkeep\n", 200_000))
}

func col(name string) api.Expr { return api.Expr{Op: "col", Name: name} }

func is(v api.Val) api.Expr { return api.Expr{Op: "val", Val: v} }

func op(name string, args ...api.Expr) api.Expr { return api.Expr{Op: name, Args: args, At: 5} }

// over is a Bool that goes over.
func over() api.Expr {
	return op("=", op("/", is(number(1)), is(number(0))), is(number(1)))
}

// read is the expression of a text, which must be one.
func read(t *testing.T, text string) api.Expr {
	t.Helper()
	e, f := tree.Parse(text)
	if f != (api.Fault{}) {
		t.Fatalf("Parse(%q): %v", text, f)
	}
	return e
}

// columns are as many as may be, two of each type, of which some have names of Ops.
func columns() []api.Col {
	return []api.Col{
		{Name: "i", Type: api.Int}, {Name: "col", Type: api.Text}, {Name: "b", Type: api.Bool},
		{Name: "neg", Type: api.Bool}, {Name: "t", Type: api.Text}, {Name: "abcdefgh", Type: api.Int},
	}
}

// values are a row of those columns.
func values() []api.Val {
	return []api.Val{number(-7), words(""), truth(1), truth(0), words("it's"), number(3)}
}

// countOf is how many Args an op has.
func countOf(op string) int {
	switch op {
	case "not", "neg", "len":
		return 1
	case "if":
		return 3
	}
	return 2
}

// needs is how many an instruction takes off the stack, or looks at.
func needs(in api.Instr) int {
	switch in.What {
	case api.Do:
		return countOf(opOf(in.Arg))
	case api.Else, api.Keep, api.Drop:
		return 1
	}
	return 0
}

// lays are the types that an instruction lays on, for those that it takes off; nil: it is wrong by chapter 8.
func lays(in api.Instr, off []int, l []api.Col) []int {
	switch in.What {
	case api.Push:
		if val.Check(in.Val) == nil {
			return []int{in.Val.Type}
		}
	case api.Load:
		if in.Arg >= 0 && in.Arg < len(l) {
			return []int{l[in.Arg].Type}
		}
	case api.Do:
		if t, err := kind.Rule(opOf(in.Arg), off); err == nil {
			return []int{t}
		}
	case api.Jump:
		if in.Arg >= 0 {
			return []int{}
		}
	case api.Else:
		if in.Arg >= 0 && off[0] == api.Bool {
			return []int{}
		}
	case api.Keep:
		return []int{off[0], off[0]}
	case api.Drop:
		return []int{}
	}
	return nil
}

// leads are the places to which the instruction there may go.
func leads(in api.Instr, at int) []int {
	switch in.What {
	case api.Jump:
		return []int{at + 1 + in.Arg}
	case api.Else:
		return []int{at + 1, at + 1 + in.Arg}
	}
	return []int{at + 1}
}

// sound tells by chapter 8 of which type is what lies there at the end; or what is wrong.
func sound(l []api.Instr, cols []api.Col) (of int, wrong string) {
	if len(l) > api.MaxCode {
		return 0, "too many"
	}
	known := map[int][]int{0: nil}
	for i, in := range l {
		stack, reached := known[i]
		off := needs(in)
		if !reached || len(stack) < off {
			return 0, fmt.Sprintf("%d is not reached, or has %v", i, stack)
		}
		left := len(stack) - off
		on := lays(in, stack[left:], cols)
		if on == nil {
			return 0, fmt.Sprintf("%d is wrong for %v", i, stack)
		}
		next := slices.Concat(stack[:left], on)
		if len(next) > api.MaxStack {
			return 0, fmt.Sprintf("%d is one too many on the stack", i)
		}
		for _, to := range leads(in, i) {
			if was, reached := known[to]; to > len(l) || reached && !slices.Equal(was, next) {
				return 0, fmt.Sprintf("%d goes to %d with %v", i, to, next)
			}
			known[to] = next
		}
	}
	end := known[len(l)]
	if len(end) != 1 {
		return 0, fmt.Sprintf("%v at the end", end)
	}
	return end[0], ""
}

// runs is what sound instructions come to of a row, done as chapter 7 tells.
func runs(l []api.Instr, row []api.Val) (api.Val, api.Errno) {
	var stack []api.Val
	for at := 0; at < len(l); at++ {
		in := l[at]
		left := len(stack) - needs(in)
		taken := slices.Clone(stack[left:])
		stack = stack[:left]
		switch in.What {
		case api.Push:
			stack = append(stack, in.Val)
		case api.Load:
			stack = append(stack, row[in.Arg])
		case api.Do:
			v, err := eval.Do(opOf(in.Arg), taken)
			if err != nil {
				return api.Val{}, plain.Told(err)
			}
			stack = append(stack, v)
		case api.Jump:
			at += in.Arg
		case api.Else:
			if taken[0].N == 0 {
				at += in.Arg
			}
		case api.Keep:
			stack = append(stack, taken[0], taken[0])
		}
	}
	return stack[0], api.OK
}

// bare tells whether an instruction has nothing but what chapter 7 names for it.
func bare(in api.Instr) bool {
	arg := in.What == api.Load || in.What == api.Do || in.What == api.Jump || in.What == api.Else
	return (arg || in.Arg == 0) && (in.What == api.Push || in.Val == api.Val{})
}

// compiled are the instructions of an expression that is right, of which all is held that K1 says of them, but for what they come to.
func compiled(t *testing.T, e api.Expr, l []api.Col) []api.Instr {
	t.Helper()
	got, f := code.Compile(e, l)
	if f != (api.Fault{}) {
		t.Fatalf("Compile(%s, %s): %v", brief(e), brief(l), f)
	}
	of, wrong := sound(got, l)
	if wrong != "" {
		t.Fatalf("Compile(%s, %s): %s: %s", brief(e), brief(l), brief(code.Print(got)), wrong)
	}
	if want, _ := kind.Of(e, l); of != want {
		t.Errorf("Compile(%s, %s): of type %d, want %d", brief(e), brief(l), of, want)
	}
	if len(got) > 6*tree.Size(e) {
		t.Errorf("Compile(%s, %s): %d instructions of %d nodes", brief(e), brief(l), len(got), tree.Size(e))
	}
	for i, in := range got {
		if !bare(in) {
			t.Errorf("Compile(%s, %s): %d is %v", brief(e), brief(l), i, in)
		}
	}
	return got
}

// hold tells what an expression that is right comes to of rows: compiled as by Eval.
func hold(t *testing.T, e api.Expr, l []api.Col, rows ...[]api.Val) {
	t.Helper()
	instrs := compiled(t, e, l)
	for _, r := range rows {
		want, err := eval.Eval(e, l, r)
		if got, told := runs(instrs, r); got != want || told != plain.Told(err) {
			t.Errorf("Compile(%s, %s), of %s: %v, %v, want %v, %v", brief(e), brief(l), brief(r), got, told, want, err)
		}
	}
}

// TestSound is of the means above: what chapter 8 says of instructions that are not right, so that compiled would tell.
func TestSound(t *testing.T) {
	for _, c := range [][]api.Instr{
		nil,
		{do(9)},
		{push(number(1)), push(number(2))},
		{push(number(1)), drop()},
		{push(api.Val{})},
		{load(6)},
		{load(-1)},
		{push(number(1)), do(2)},
		{push(truth(1)), push(truth(1)), do(1)},
		{push(number(1)), jump(1)},
		{push(number(1)), jump(-1)},
		{push(number(1)), jump(1), push(number(1)), do(9)},
		{push(number(1)), other(0), push(number(1))},
		{push(truth(1)), other(1), push(number(1))},
		{push(truth(1)), other(2), push(number(1)), jump(1), push(truth(1))},
		{keep()},
		{{What: 8}},
		append(slices.Repeat([]api.Instr{push(truth(1))}, 65), slices.Repeat([]api.Instr{do(3)}, 64)...),
		slices.Concat([]api.Instr{push(truth(1))}, slices.Repeat([]api.Instr{do(2)}, 1_200)),
	} {
		if _, wrong := sound(c, columns()); wrong == "" {
			t.Errorf("%s is sound", brief(code.Print(c)))
		}
	}
	for _, c := range [][]api.Instr{
		{push(number(1)), jump(0)},
		{push(truth(1)), other(2), push(number(1)), jump(1), push(number(2))},
		{load(2), keep(), other(2), drop(), push(truth(1))},
		append(slices.Repeat([]api.Instr{push(truth(1))}, 64), slices.Repeat([]api.Instr{do(3)}, 63)...),
	} {
		if _, wrong := sound(c, columns()); wrong != "" {
			t.Errorf("%s: %s", brief(code.Print(c)), wrong)
		}
	}
}

// rising are values of each type.
var rising = [][]api.Val{
	{number(0), number(1), number(2), number(7), number(1 << 31), number(3_037_000_500), number(1 << 62), number(math.MaxInt)},
	{truth(0), truth(1)},
	{words(""), words(" "), words("'"), words("0"), words("a"), words("aa"), words("b"), words("it's"), words(long(40))},
}

// TestCompileOne is of K1: a value, and a column wherever it stands.
func TestCompileOne(t *testing.T) {
	for _, v := range slices.Concat(rising...) {
		hold(t, is(v), columns(), values())
		hold(t, is(v), columns()[:1], values()[:1])
	}
	for i, c := range columns() {
		for _, v := range append(rising[c.Type-1], values()[i]) {
			r := values()
			r[i] = v
			hold(t, col(c.Name), columns(), r)
			hold(t, col(c.Name), columns()[i:], r[i:])
			hold(t, col(c.Name), columns()[:i+1], r[:i+1])
		}
	}
}

// choices are all lists of n of these.
func choices[T any](l []T, n int) [][]T {
	if n == 0 {
		return [][]T{nil}
	}
	var all [][]T
	for _, ahead := range choices(l, n-1) {
		for _, one := range l {
			all = append(all, append(slices.Clone(ahead), one))
		}
	}
	return all
}

// TestCompileOperations is of K1: each operation of columns, whatever their values; the first is below, the last on top.
func TestCompileOperations(t *testing.T) {
	few := []api.Val{
		number(math.MinInt), number(-3), number(-1), number(0), number(2), number(math.MaxInt),
		truth(0), truth(1), words(""), words("a"), words("b"), words(long(40)),
	}
	right := 0
	for _, o := range kind.Ops() {
		for _, args := range choices(few, countOf(o)) {
			var l []api.Col
			e := op(o)
			for i, v := range args {
				l = append(l, api.Col{Name: string("xyz"[i]), Type: v.Type})
				e.Args = append(e.Args, col(l[i].Name))
			}
			if _, f := kind.Of(e, l); f == (api.Fault{}) {
				right++
				hold(t, e, l, args)
				continue
			}
			holdFault(t, e, l, api.Fault{How: api.ErrType, At: 5})
		}
	}
	// There are 6 numbers, 2 Bools, 4 texts; so 36 + 4 + 16 pairs of one type.
	if want := 2*4 + 2 + 6*(36+4+16) + 5*36 + 6 + 4 + 2*(36+4+16); right != want {
		t.Errorf("%d lists are right, want %d", right, want)
	}
}

// TestCompileTexts is of K1: expressions as they are read, what they come to of the row above, and what is not reckoned.
func TestCompileTexts(t *testing.T) {
	for _, c := range []struct {
		text, want string
	}{
		{"i", "-7"},
		{"((((t))))", "'it''s'"},
		{"i + abcdefgh * 2 - 1", "-2"},
		{"i - abcdefgh - 1", "-11"},
		{"i - (abcdefgh - 1)", "-9"},
		{"i / 2 * 2", "-6"},
		{"i % abcdefgh", "-1"},
		{"- - i", "-7"},
		{"len(t) + len(col) + len('a''b')", "7"},
		{"not neg", "true"},
		{"b or neg", "true"},
		{"neg or b", "true"},
		{"neg or neg", "false"},
		{"b and neg", "false"},
		{"neg and b", "false"},
		{"b and b", "true"},
		{"i < abcdefgh", "true"},
		{"col >= t", "false"},
		{"neg = (b = neg)", "true"},
		{"not i = 0 and t <> col or neg", "true"},
		{"if(b, t, col)", "'it''s'"},
		{"if(neg, i, abcdefgh)", "3"},
		{"if(if(b, neg, b), 1, if(neg, 2, 3))", "3"},
		{"if(i < 0, - i, i) * 2", "14"},
		{"- 9223372036854775807 - 1", "-9223372036854775808"},
		{"1 / 0", "ErrOver"},
		{"9223372036854775807 * 2 / 2", "ErrOver"},
		{"0 * (1 / 0)", "ErrOver"},
		{"- (1 / 0)", "ErrOver"},

		// What is not needed is not reckoned, and what goes over there is not told.
		{"false and 1 / 0 = 1", "false"},
		{"neg and i % 0 = 1", "false"},
		{"true or 1 / 0 = 1", "true"},
		{"b or i % 0 = 1", "true"},
		{"if(true, 1, 1 / 0)", "1"},
		{"if(false, 1 / 0, 2)", "2"},
		{"if(b, t, if(1 / 0 = 1, t, col))", "'it''s'"},
		{"if(neg, 1 / 0, if(b, i, 1 / 0))", "-7"},
		{"neg and 1 / 0 = 1 and 1 % 0 = 1", "false"},
		{"b or 1 / 0 = 1 or 1 % 0 = 1", "true"},
		{"b or 1 / 0 = 1 and 1 % 0 = 1", "true"},
		{"(b or 1 / 0 = 1) and (neg and 1 / 0 = 1 or b)", "true"},
		{"not (neg and 1 / 0 = 1)", "true"},
		{"1 + if(i <> 0, abcdefgh / i, 1 / 0)", "1"},
		{"if(neg and 1 / 0 = 1, 1 / 0, 4)", "4"},

		// What is needed is, also where it would come to the same whichever it was.
		{"true and 1 / 0 = 1", "ErrOver"},
		{"false or 1 / 0 = 1", "ErrOver"},
		{"1 / 0 = 1 and false", "ErrOver"},
		{"1 / 0 = 1 or true", "ErrOver"},
		{"b and 1 / 0 = 1 and neg", "ErrOver"},
		{"neg or 1 / 0 = 1 or b", "ErrOver"},
		{"if(1 / 0 = 1, 2, 2)", "ErrOver"},
		{"if(b, 1 / 0, 1)", "ErrOver"},
		{"if(neg, 1, 1 / 0)", "ErrOver"},
		{"0 * i * (1 / 0)", "ErrOver"},
		{"if(b, 1, 2) + if(neg, 1, 1 / 0)", "ErrOver"},
	} {
		v, told := runs(compiled(t, read(t, c.text), columns()), values())
		got, _ := val.Print(v)
		if told != api.OK {
			got = told.Error()
		}
		if got != c.want {
			t.Errorf("Compile of %q comes to %s, want %s", c.text, got, c.want)
		}
	}
}

// TestCompileChoices is of K1: all of `or`, `and`, `if`, `not` and `=` of all of these again, of false, of true and of what goes over.
func TestCompileChoices(t *testing.T) {
	leaves := []api.Expr{col("b"), is(truth(0)), over()}
	var inner []api.Expr
	for _, o := range []string{"or", "and", "not", "=", "if"} {
		for _, args := range choices(leaves, countOf(o)) {
			inner = append(inner, op(o, args...))
		}
	}
	l := []api.Col{{Name: "b", Type: api.Bool}}
	rows := [][]api.Val{{truth(0)}, {truth(1)}}
	for _, o := range []string{"or", "and", "not", "="} {
		for _, args := range choices(inner, countOf(o)) {
			hold(t, op(o, args...), l, rows...)
		}
	}
	for i, e := range inner {
		for _, args := range choices(leaves, 2) {
			hold(t, op("if", e, args[0], args[1]), l, rows...)
			hold(t, op("if", args[0], e, args[1]), l, rows...)
			hold(t, op("if", args[0], args[1], e), l, rows...)
			hold(t, op("if", args[0], e, inner[(i*7+5)%len(inner)]), l, rows...)
		}
	}
}

// depth is how many nodes lie below each other at most.
func depth(e api.Expr) int {
	most := 0
	for _, a := range e.Args {
		most = max(most, depth(a))
	}
	return most + 1
}

// to is an expression as deep as it may be, where each has the next one as its Arg of that place.
func to(o string, leaf, end api.Expr, place int) api.Expr {
	e := end
	for range api.MaxDepth - depth(end) {
		args := slices.Repeat([]api.Expr{leaf}, countOf(o))
		args[place] = e
		e = op(o, args...)
	}
	return e
}

// bush has n nodes of an op of two, which must be odd, and is not deep.
func bush(o string, leaf api.Expr, n int) api.Expr {
	if n == 1 {
		return leaf
	}
	left := (n - 1) / 2
	if left%2 == 0 {
		left--
	}
	return op(o, bush(o, leaf, left), bush(o, leaf, n-1-left))
}

// shrub is of `if`s with n nodes, which must be 1 and some times 3, and is not deep.
func shrub(n int) api.Expr {
	if n == 1 {
		return col("b")
	}
	third := (n - 1) / 3
	third -= (third - 1) % 3
	return op("if", shrub(third), shrub(third), shrub(n-1-2*third))
}

// bools are all rows of the columns above that have other Bools.
func bools() [][]api.Val {
	var rows [][]api.Val
	for n := range 4 {
		r := values()
		r[2], r[3] = truth(n/2), truth(n%2)
		rows = append(rows, r)
	}
	return rows
}

// TestCompileGreat is of K1: expressions as deep and as great as may be, of each op, from each side.
func TestCompileGreat(t *testing.T) {
	leaves := map[string]api.Expr{"b": col("b"), "i": col("i"), "n": col("neg")}
	for o, of := range map[string]string{"or": "bn", "and": "bn", "not": "b", "=": "bn", "+": "i", "-": "i", "*": "i", "/": "i", "%": "i", "neg": "i", "if": "bn"} {
		for place := range countOf(o) {
			for _, leaf := range of {
				for _, end := range of {
					hold(t, to(o, leaves[string(leaf)], leaves[string(end)], place), columns(), bools()...)
				}
				if of != "i" {
					hold(t, to(o, leaves[string(leaf)], over(), place), columns(), bools()...)
				}
			}
		}
	}
	for _, o := range []string{"or", "and", "="} {
		hold(t, bush(o, col("b"), 199), columns(), bools()...)
		hold(t, op("not", bush(o, col("neg"), 199)), columns(), bools()...)
	}
	for _, o := range []string{"+", "-", "*", "/", "%"} {
		hold(t, bush(o, col("i"), 199), columns(), values())
		hold(t, op("neg", bush(o, is(number(1)), 199)), columns(), values())
	}
	hold(t, shrub(199), columns(), bools()...)
	hold(t, op("not", shrub(199)), columns(), bools()...)
	longest := op("if", is(truth(0)), is(words(long(40))), is(words(strings.Repeat("'", 40))))
	hold(t, longest, columns(), values())
}

// TestCompileWordColumns is of K1: a schema may have words of the language as names, and the other columns are found beside them.
func TestCompileWordColumns(t *testing.T) {
	l := []api.Col{{Name: "sum", Type: api.Text}, {Name: "true", Type: api.Bool}, {Name: "i", Type: api.Int}}
	r := []api.Val{words("s"), truth(0), number(9)}
	hold(t, col("i"), l, r)
	hold(t, is(truth(1)), l, r)
	holdFault(t, col("sum"), l, api.Fault{How: api.ErrSyntax})
}

// rulesTo are the ops, with the types of their Args, by which something is of a type: i Int, b Bool, t Text.
func rulesTo(of int) []string {
	numbers := "+ii -ii *ii /ii %ii negi lent ifbii"
	truths := "orbb andbb notb =ii <>ii <ii <=ii >ii >=ii =tt <tt >tt =bb <>bb <=bb ifbbb orbb andbb"
	return strings.Fields([]string{numbers, truths, "ifbtt"}[of-1])
}

// some is an expression by chance, of that type and at most so deep.
func some(r *rand.Rand, depth, of int) api.Expr {
	switch {
	case depth > 1 && r.Intn(5) > 0:
		all := rulesTo(of)
		one := all[r.Intn(len(all))]
		name := one
		for _, o := range kind.Ops() {
			// `<` stands ahead of `<=` too, but leaves one too many there.
			if strings.HasPrefix(one, o) && len(one)-len(o) == countOf(o) {
				name = o
			}
		}
		e := op(name)
		for _, a := range one[len(name):] {
			e.Args = append(e.Args, some(r, depth-1, strings.IndexRune(" ibt", a)))
		}
		return e
	case r.Intn(3) == 0:
		return is(rising[of-1][r.Intn(len(rising[of-1]))])
	}
	return col([][]string{{"i", "abcdefgh"}, {"b", "neg"}, {"t", "col"}}[of-1][r.Intn(2)])
}

// someRow is a row of these columns by chance.
func someRow(r *rand.Rand, l []api.Col) []api.Val {
	var vals []api.Val
	for _, c := range l {
		v := rising[c.Type-1][r.Intn(len(rising[c.Type-1]))]
		if c.Type == api.Int && r.Intn(3) > 0 {
			v = number(r.Intn(9) - 4)
		}
		vals = append(vals, v)
	}
	return vals
}

// TestCompileSome is of K1: expressions, columns and rows by chance.
func TestCompileSome(t *testing.T) {
	r := rand.New(rand.NewSource(3))
	right, went := 0, 0
	for range 20_000 {
		e := some(r, 1+r.Intn(8), 1+r.Intn(3))
		l := columns()
		r.Shuffle(len(l), func(i, j int) { l[i], l[j] = l[j], l[i] })
		if tree.Size(e) > api.MaxNodes {
			holdFault(t, e, l, api.Fault{How: api.ErrFull})
			continue
		}
		rows := [][]api.Val{someRow(r, l), someRow(r, l), someRow(r, l)}
		hold(t, e, l, rows...)
		right++
		if _, err := eval.Eval(e, l, rows[0]); err != nil {
			went++
		}
	}
	if right < 10_000 || went < 1_000 {
		t.Errorf("%d were right, %d went over", right, went)
	}
}

// reads is the instruction of a line that Print wrote.
func reads(line string) api.Instr {
	word, of, _ := strings.Cut(line, " ")
	what := slices.Index([]string{"", "push", "load", "do", "jump", "else", "keep", "drop"}, word)
	in := api.Instr{What: what}
	switch what {
	case api.Push:
		in.Val, _ = val.Parse(of)
	case api.Do:
		in.Arg = slices.Index(operations, of)
	case api.Load, api.Jump, api.Else:
		in.Arg, _ = strconv.Atoi(of)
	}
	return in
}

// TestPrintCompiled is of K1: what is compiled is written so that all of it can be read again.
func TestPrintCompiled(t *testing.T) {
	r := rand.New(rand.NewSource(4))
	for range 2_000 {
		e := some(r, 1+r.Intn(5), 1+r.Intn(3))
		instrs := compiled(t, e, columns())
		var again []api.Instr
		for line := range strings.Lines(code.Print(instrs)) {
			again = append(again, reads(strings.TrimSuffix(line, "\n")))
		}
		if !slices.Equal(instrs, again) {
			t.Errorf("Print(%s) is read as %s", brief(instrs), brief(again))
		}
	}
}

// holdFault is of P1 too: there are no instructions beside a fault.
func holdFault(t *testing.T, e api.Expr, l []api.Col, want api.Fault) {
	t.Helper()
	if got, f := code.Compile(e, l); len(got) > 0 || f != want {
		t.Errorf("Compile(%s, %s): %s, %v, want %v", brief(e), brief(l), brief(got), f, want)
	}
}

// faulty are expressions and what chapter 5's Of tells of them over the columns.
func faulty() []struct {
	e    api.Expr
	want api.Fault
} {
	at := func(n int, e api.Expr) api.Expr {
		e.At = n
		return e
	}
	return []struct {
		e    api.Expr
		want api.Fault
	}{
		{api.Expr{}, api.Fault{How: api.ErrSyntax}},
		{at(9, api.Expr{}), api.Fault{How: api.ErrSyntax}},
		{op("nor", col("b"), col("b")), api.Fault{How: api.ErrSyntax}},
		{at(9, col("or")), api.Fault{How: api.ErrSyntax}},
		{at(9, col("a1")), api.Fault{How: api.ErrSyntax}},
		{at(9, is(words("\n"))), api.Fault{How: api.ErrSyntax}},
		{op("+", col("i")), api.Fault{How: api.ErrShape}},
		{op("+", col("i"), col("i"), col("i")), api.Fault{How: api.ErrShape}},
		{op("if"), api.Fault{How: api.ErrShape}},
		{api.Expr{Op: "col", Name: "i", Val: number(1), At: 3}, api.Fault{How: api.ErrShape}},
		{at(9, is(api.Val{})), api.Fault{How: api.ErrRange}},
		{at(9, is(number(-1))), api.Fault{How: api.ErrRange}},
		{at(9, is(truth(2))), api.Fault{How: api.ErrRange}},
		{at(9, is(words(long(41)))), api.Fault{How: api.ErrFull}},
		{op("not", to("not", col("b"), col("b"), 0)), api.Fault{How: api.ErrFull}},
		{bush("+", col("i"), 201), api.Fault{How: api.ErrFull}},
		{op("neg", op("neg", bush("+", col("i"), 199))), api.Fault{How: api.ErrFull}},

		{at(9, col("zz")), api.Fault{How: api.ErrNone, At: 9}},
		{at(-9, col("zz")), api.Fault{How: api.ErrNone, At: -9}},
		{at(math.MaxInt, col("zz")), api.Fault{How: api.ErrNone, At: math.MaxInt}},
		{at(3, op("not", at(7, col("i")))), api.Fault{How: api.ErrType, At: 3}},
		{at(3, op("+", col("i"), col("t"))), api.Fault{How: api.ErrType, At: 3}},
		{at(3, op("+", at(4, col("t")), at(5, col("zz")))), api.Fault{How: api.ErrNone, At: 5}},
		{at(3, op("+", at(4, op("not", col("i"))), at(5, col("zz")))), api.Fault{How: api.ErrType, At: 4}},

		// Of all nodes, also of those that are not needed.
		{at(3, op("and", is(truth(0)), at(8, col("zz")))), api.Fault{How: api.ErrNone, At: 8}},
		{at(3, op("or", is(truth(1)), is(number(1)))), api.Fault{How: api.ErrType, At: 3}},
		{at(3, op("if", is(truth(1)), is(number(1)), is(words("")))), api.Fault{How: api.ErrType, At: 3}},
		{at(3, op("if", is(number(1)), is(number(1)), is(number(1)))), api.Fault{How: api.ErrType, At: 3}},
		{at(3, op("if", is(truth(1)), is(number(1)), is(number(-1)))), api.Fault{How: api.ErrRange}},
		{at(3, op("if", is(truth(0)), op("not"), is(number(1)))), api.Fault{How: api.ErrShape}},
		{at(3, op("not", op("/", is(number(1)), is(number(0))))), api.Fault{How: api.ErrType, At: 3}},
	}
}

// TestCompileFaults is of K1, P1 and P3: the faults of Of, How and At, written out and as Of tells them.
func TestCompileFaults(t *testing.T) {
	for _, c := range faulty() {
		if _, f := kind.Of(c.e, columns()); f != c.want {
			t.Errorf("Of(%s): %v, want %v", brief(c.e), f, c.want)
		}
		holdFault(t, c.e, columns(), c.want)
	}
	for _, c := range []struct {
		text string
		want api.Fault
	}{
		{"i + zz", api.Fault{How: api.ErrNone, At: 4}},
		{"i + t", api.Fault{How: api.ErrType, At: 2}},
		{"b or zz", api.Fault{How: api.ErrNone, At: 5}},
		{"if(b, i, t)", api.Fault{How: api.ErrType, At: 0}},
		{"b and if(b, 1, 2)", api.Fault{How: api.ErrType, At: 2}},
		{"b and len(i) = 1", api.Fault{How: api.ErrType, At: 6}},
	} {
		holdFault(t, read(t, c.text), columns(), c.want)
	}
}

// TestCompileSchema is of K1, P1 and P3: columns that are none, behind Check of the expression and ahead of what is of which type.
func TestCompileSchema(t *testing.T) {
	i := api.Col{Name: "i", Type: api.Int}
	for _, c := range []struct {
		l    []api.Col
		want api.Errno
	}{
		{nil, api.ErrNone},
		{[]api.Col{}, api.ErrNone},
		{append(columns(), api.Col{Name: "x", Type: api.Int}), api.ErrFull},
		{make([]api.Col, 100_000), api.ErrFull},
		{[]api.Col{{}}, api.ErrSyntax},
		{[]api.Col{i, {Name: "I", Type: api.Int}}, api.ErrSyntax},
		{[]api.Col{i, {Name: "j", Type: 4}}, api.ErrRange},
		{[]api.Col{i, i}, api.ErrClash},
	} {
		for _, e := range []api.Expr{is(number(1)), col("i"), col("zz"), op("not", is(number(1))), over()} {
			holdFault(t, e, c.l, api.Fault{How: c.want})
		}
		holdFault(t, is(number(-1)), c.l, api.Fault{How: api.ErrRange})
		holdFault(t, op("not"), c.l, api.Fault{How: api.ErrShape})
	}
}

// TestEndless is of P1: what is far too great, or stands within itself, or lies deeper than calls could go, is too great.
func TestEndless(t *testing.T) {
	// Calls as deep as this would need far more.
	defer debug.SetMaxStack(debug.SetMaxStack(8 << 20))
	doubled, deep := col("i"), col("b")
	for range 100 {
		doubled = op("+", doubled, doubled)
	}
	for range 500_000 {
		deep = op("not", deep)
	}
	own := make([]api.Expr, 1)
	own[0] = op("neg", own...)
	both := make([]api.Expr, 2)
	both[0], both[1] = is(truth(0)), op("and", both...)
	for i, e := range []api.Expr{doubled, own[0], both[1], deep, {Op: "if", Args: make([]api.Expr, 100_000)}} {
		for _, l := range [][]api.Col{columns(), nil} {
			if got, f := code.Compile(e, l); len(got) > 0 || f != (api.Fault{How: api.ErrFull}) {
				t.Errorf("Compile of endless %d: %s, %v, want ErrFull", i, brief(got), f)
			}
		}
	}
}

// roomy has room behind each of its lists, and something in it.
func roomy(e api.Expr) api.Expr {
	args := make([]api.Expr, len(e.Args), len(e.Args)+2)
	for i, a := range e.Args {
		args[i] = roomy(a)
	}
	for i := range 2 {
		args[:cap(args)][len(args)+i] = col("behind")
	}
	e.Args = args
	return e
}

// behind tells whether all that roomy laid is as it was.
func behind(e api.Expr) bool {
	so := slices.EqualFunc(e.Args[len(e.Args):cap(e.Args)], []api.Expr{col("behind"), col("behind")}, alike)
	for _, a := range e.Args {
		so = so && behind(a)
	}
	return so
}

// alike tells whether two are the same, At and all.
func alike(a, b api.Expr) bool {
	return a.Op == b.Op && a.Name == b.Name && a.Val == b.Val && a.At == b.At && slices.EqualFunc(a.Args, b.Args, alike)
}

// TestListsStay is of P2 and P4: what Compile is given stays as it is, and what lies behind its length is neither read nor written.
func TestListsStay(t *testing.T) {
	l := []api.Expr{col("behind"), bush("and", col("b"), 199), shrub(199), to("or", col("neg"), over(), 1)}
	r := rand.New(rand.NewSource(5))
	for range 100 {
		l = append(l, some(r, 5, 1+r.Intn(3)))
	}
	for _, c := range faulty() {
		l = append(l, c.e)
	}
	for _, e := range l {
		for n := range len(columns()) + 1 {
			want, fault := code.Compile(e, slices.Clone(columns()[:n]))
			handed, cols := roomy(e), columns()
			got, f := code.Compile(handed, cols[:n])
			if !slices.Equal(got, want) || f != fault {
				t.Errorf("Compile(%s) over %d: %s, %v, want %s, %v", brief(e), n, brief(got), f, brief(want), fault)
			}
			if !alike(handed, e) || !behind(handed) || !slices.Equal(cols, columns()) {
				t.Errorf("%s, or its columns, were written into", brief(e))
			}
		}
	}
}

// TestInstrsStay is of P2 and P4: so it is with the instructions that Print is given.
func TestInstrsStay(t *testing.T) {
	r := rand.New(rand.NewSource(6))
	for range 500 {
		var l []api.Instr
		for range 10 {
			l = append(l, anyInstr(r))
		}
		n := r.Intn(11)
		was := slices.Clone(l)
		want := ""
		for _, in := range l[:n] {
			want += lineOf(in) + "\n"
		}
		holdPrint(t, l[:n], want)
		if !slices.Equal(l, was) {
			t.Errorf("Print made %v of %v", l, was)
		}
	}
}

// TestNothingKept is of P2: what is done afterwards with what was handed in, or handed out, changes no other answer.
func TestNothingKept(t *testing.T) {
	e, l := op("if", col("b"), op("or", col("neg"), is(truth(1))), is(truth(0))), columns()
	first, _ := code.Compile(e, l)
	second, _ := code.Compile(e, l)
	was := slices.Clone(first)
	clear(second[:cap(second)])
	if !slices.Equal(first, was) {
		t.Errorf("%v became %v", was, first)
	}
	e.Args[1].Args[1], l[2].Type, l[3].Name = is(number(9)), api.Int, "zz"
	if !slices.Equal(first, was) {
		t.Errorf("%v became %v", was, first)
	}
	holdFault(t, e, l, api.Fault{How: api.ErrNone})
	e = op("if", col("b"), op("or", col("neg"), is(truth(1))), is(truth(0)))
	if third, f := code.Compile(e, columns()); !slices.Equal(third, was) || f != (api.Fault{}) {
		t.Errorf("then it is %v, %v, want %v", third, f, was)
	}
	text := code.Print(first)
	clear(first)
	if want := code.Print(was); text != want {
		t.Errorf("it is written %q, want %q", text, want)
	}
}

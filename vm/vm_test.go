package vm_test

import (
	"fmt"
	"math"
	"math/big"
	"math/rand"
	"slices"
	"strconv"
	"strings"
	"testing"
	"unsafe"

	"sluicebook/api"
	"sluicebook/code"
	"sluicebook/eval"
	"sluicebook/kind"
	"sluicebook/plain"
	"sluicebook/row"
	"sluicebook/tree"
	"sluicebook/val"
	"sluicebook/verify"
	"sluicebook/vm"
)

func number(n int) api.Val   { return api.Val{Type: api.Int, N: n} }
func truth(n int) api.Val    { return api.Val{Type: api.Bool, N: n} }
func words(s string) api.Val { return api.Val{Type: api.Text, S: s} }

// long is a text of so many bytes.
func long(n int) string { return strings.Repeat("z", n) }

// brief is the beginning of what is told of something, which may be very great.
func brief(a any) string { return fmt.Sprintf("%.300q", fmt.Sprint(a)) }

// names are what instructions do, by their numbers.
var names = []string{"", "push", "load", "do", "jump", "else", "keep", "drop"}

// operations are the Ops by their numbers; "": there is none here.
var operations = []string{"", "", "not", "=", "<>", "<", "<=", ">", ">=", "+", "-", "*", "/", "%", "neg", "len", ""}

// read gives instructions of a text: `;` between; `do` with an operation, or any number; `what` with one for which there is none.
func read(text string) []api.Instr {
	var l []api.Instr
	for part := range strings.SplitSeq(text, ";") {
		word, of, _ := strings.Cut(strings.TrimSpace(part), " ")
		if word == "" {
			continue
		}
		in := api.Instr{What: slices.Index(names, word)}
		n, err := strconv.Atoi(of)
		in.Arg = n
		switch {
		case word == "what":
			in.What, in.Arg = n, 0
		case in.What == api.Push:
			in.Arg = 0
			in.Val, err = val.Parse(of)
		case in.What == api.Do && err != nil:
			in.Arg = slices.Index(operations, of)
			err = nil
		case in.What == api.Keep || in.What == api.Drop:
			err = nil
		}
		if err != nil || in.What < 0 && word != "what" {
			panic("no instruction: " + part)
		}
		l = append(l, in)
	}
	return l
}

// columns are as many as may be, two of each type.
func columns() []api.Col {
	return []api.Col{
		{Name: "i", Type: api.Int}, {Name: "b", Type: api.Bool}, {Name: "t", Type: api.Text},
		{Name: "true", Type: api.Text}, {Name: "neg", Type: api.Bool}, {Name: "abcdefgh", Type: api.Int},
	}
}

// values are a row of those columns.
func values() []api.Val {
	return []api.Val{number(7), truth(1), words("it's"), words(""), truth(0), number(-3)}
}

// answer is what instructions come to, if there is fuel for all: the value, the numbers of those that are done, and api.OK; or the numbers of those that are done ahead of the error.
type answer struct {
	v    api.Val
	path []int
	how  api.Errno
}

// fuels are such that may be, near to a number and far from it.
func fuels(n int) []int {
	l := []int{999_999, 1_000_000}
	for _, f := range []int{0, 1, 2, n / 2, n - 2, n - 1, n, n + 1, n + 2, 2 * n, 1_199, 1_200, 1_201, 65_536} {
		if f >= 0 {
			l = append(l, f)
		}
	}
	return l
}

// noFuels are such that may not be.
func noFuels() []int {
	return []int{
		-1, -2, -1_000_000, -1 << 31, -1 << 32, -1<<32 + 5, math.MinInt, math.MinInt + 1, math.MinInt + 1_000_000,
		1_000_001, 1_000_002, 1 << 20, 1 << 31, 1<<32 + 5, 1 << 62, math.MaxInt - 1, math.MaxInt,
	}
}

// holdRun is of P1 and P3 too: beside an error is nothing but how many were done.
func holdRun(t *testing.T, l []api.Instr, cols []api.Col, r []api.Val, fuel int, v api.Val, done int, how api.Errno) {
	t.Helper()
	if got, n, err := vm.Run(l, cols, r, fuel); got != v || n != done || plain.Told(err) != how {
		t.Errorf("Run of %d, %s of %s with %d: %v, %d, %v, want %v, %d, %v", len(l), brief(code.Print(l)), brief(r), fuel, got, n, err, v, done, how)
	}
}

// holdTrace is of M2, P1 and P3 too: there is nothing beside an error, and no number comes twice.
func holdTrace(t *testing.T, l []api.Instr, cols []api.Col, r []api.Val, path []int, how api.Errno) {
	t.Helper()
	got, err := vm.Trace(l, cols, r)
	if !slices.Equal(got, path) || plain.Told(err) != how {
		t.Errorf("Trace of %d, %s of %s: %s, %v, want %s, %v", len(l), brief(code.Print(l)), brief(r), brief(got), err, brief(path), how)
	}
	seen := map[int]int{}
	for _, at := range got {
		seen[at]++
		if seen[at] > 1 || at < 0 || at >= len(l) {
			t.Errorf("Trace of %d, %s of %s: %d is done %d times", len(l), brief(code.Print(l)), brief(r), at, seen[at])
		}
	}
}

// hold tells what right instructions come to of a right row, with as much fuel as is needed, and with more and less.
func hold(t *testing.T, l []api.Instr, cols []api.Col, r []api.Val, want answer) {
	t.Helper()
	n := len(want.path)
	traced := want.path
	if want.how != api.OK {
		traced = nil
	}
	holdTrace(t, l, cols, r, traced, want.how)
	for _, fuel := range fuels(n) {
		switch {
		case want.how == api.OK && fuel >= n, fuel > n:
			holdRun(t, l, cols, r, fuel, want.v, n, want.how)
		default:
			holdRun(t, l, cols, r, fuel, api.Val{}, fuel, api.ErrFuel)
		}
	}
}

// holdWrong tells an error that comes ahead of all that is done, of Run and Trace.
func holdWrong(t *testing.T, l []api.Instr, cols []api.Col, r []api.Val, how api.Errno) {
	t.Helper()
	holdTrace(t, l, cols, r, nil, how)
	for _, fuel := range append(fuels(len(l)), noFuels()...) {
		holdRun(t, l, cols, r, fuel, api.Val{}, 0, how)
	}
}

// does is what an operation comes to of values of the right types, by numbers of any size; false: it goes over.
func does(op string, args []api.Val) (api.Val, bool) {
	a, b := args[0], args[len(args)-1]
	x, y, n := big.NewInt(int64(a.N)), big.NewInt(int64(b.N)), new(big.Int)
	order := x.Cmp(y)
	if a.Type == api.Text {
		order = strings.Compare(a.S, b.S)
	}
	signs, comparison := map[string]string{"=": "0", "<>": "-+", "<": "-", "<=": "-0", ">": "+", ">=": "0+"}[op]
	switch {
	case comparison:
		return truth(strings.Count(signs, string("-0+"[order+1]))), true
	case op == "not":
		return truth(1 - a.N), true
	case op == "len":
		return number(len(a.S)), true
	case op == "+":
		n.Add(x, y)
	case op == "-":
		n.Sub(x, y)
	case op == "*":
		n.Mul(x, y)
	case op == "neg":
		n.Neg(x)
	case y.Sign() == 0:
		return api.Val{}, false
	case op == "/":
		n.Quo(x, y)
	case op == "%":
		n.Rem(x, y)
	}
	return number(int(n.Int64())), n.IsInt64()
}

// cell is a value, and what lies below it.
type cell struct {
	v     api.Val
	below *cell
}

// meant is what right instructions come to of a row, told from the words of chapter 7; it panics where they are not right.
func meant(l []api.Instr, r []api.Val) answer {
	var top *cell
	var path []int
	for rest := l; len(rest) > 0; {
		at := len(l) - len(rest)
		in := rest[0]
		rest = rest[1:]
		switch names[in.What] {
		case "push":
			top = &cell{in.Val, top}
		case "load":
			top = &cell{r[in.Arg], top}
		case "keep":
			top = &cell{top.v, top}
		case "drop":
			top = top.below
		case "jump":
			rest = rest[in.Arg:]
		case "else":
			if !isTrue(top.v) {
				rest = rest[in.Arg:]
			}
			top = top.below
		case "do":
			op := operations[in.Arg]
			args, below := []api.Val{top.v}, top.below
			if op != "not" && op != "neg" && op != "len" {
				args, below = []api.Val{below.v, top.v}, below.below
			}
			v, so := does(op, args)
			if !so {
				return answer{path: path, how: api.ErrOver}
			}
			top = &cell{v, below}
		}
		path = append(path, at)
	}
	if top.below != nil {
		panic("more than one at the end")
	}
	return answer{v: top.v, path: path}
}

func isTrue(v api.Val) bool {
	if v != truth(0) && v != truth(1) {
		panic("no Bool")
	}
	return v == truth(1)
}

// upTo are the numbers from 0 on, so many.
func upTo(n int) []int {
	var l []int
	for i := range n {
		l = append(l, i)
	}
	return l
}

// ends are instructions that come to a value of the row above, it, and the numbers of those that are done; "": all.
var ends = []struct {
	text, want, path string
}{
	{"push 1", "1", ""},
	{"push -9223372036854775808", "-9223372036854775808", ""},
	{"push true", "true", ""},
	{"push ''", "''", ""},
	{"push 'it''s'", "'it''s'", ""},
	{"load 0", "7", ""},
	{"load 1", "true", ""},
	{"load 2", "'it''s'", ""},
	{"load 3", "''", ""},
	{"load 4", "false", ""},
	{"load 5", "-3", ""},

	// The last one lies on top.
	{"load 0; load 5; do -", "10", ""},
	{"load 5; load 0; do -", "-10", ""},
	{"load 0; load 5; do /", "-2", ""},
	{"load 0; load 5; do %", "1", ""},
	{"load 5; load 0; do <", "true", ""},
	{"load 0; load 5; do <", "false", ""},
	{"load 2; load 3; do >=", "true", ""},
	{"load 3; load 2; do >=", "false", ""},
	{"load 4; load 1; do <=", "true", ""},
	{"push 1; push 2; push 3; do -; do -", "2", ""},
	{"push 1; push 2; do -; push 3; do -", "-4", ""},
	{"push 2; push 3; push 4; do +; do *", "14", ""},
	{"load 1; do not", "false", ""},
	{"load 0; do neg", "-7", ""},
	{"load 2; do len", "4", ""},
	{"load 2; push 'it''s'; do =", "true", ""},
	{"load 2; push 'it''s'; do <>", "false", ""},
	{"load 0; push 7; do >", "false", ""},
	{"push -9223372036854775808; push -1; do %", "0", ""},
	{"push -9223372036854775808; push 1; do /; do neg; do neg", "ErrOver", "0 1 2"},

	{"load 0; keep; do *", "49", ""},
	{"load 0; keep; keep; do +; do +", "21", ""},
	{"load 0; load 5; keep; do *; do -", "-2", ""},
	{"push 1; keep; drop", "1", ""},
	{"load 0; load 5; keep; drop; do -", "10", ""},
	{"load 0; load 2; drop", "7", ""},
	{"push 'a'; drop; push 1; drop; load 4", "false", ""},
	{"load 0; load 5; load 2; drop; do +", "4", ""},
	{"load 2; keep; do =", "true", ""},

	// A Jump goes on further on than the next one; to the end as well.
	{"jump 0; push 1", "1", ""},
	{"push 1; jump 0; jump 0; jump 0", "1", ""},
	{"load 1; else 1; jump 2; push 1; jump 1; push 2", "2", "0 1 2 5"},
	{"load 4; else 1; jump 2; push 1; jump 1; push 2", "1", "0 1 3 4"},

	// An Else takes a Bool off, and goes on further on if it is false.
	{"load 1; else 2; push 1; jump 1; push 2", "1", "0 1 2 3"},
	{"load 4; else 2; push 1; jump 1; push 2", "2", "0 1 4"},
	{"load 1; else 0; push 1", "1", ""},
	{"load 4; else 0; push 1", "1", ""},
	{"push 1; load 1; else 1; do neg", "-1", ""},
	{"push 1; load 4; else 1; do neg", "1", "0 1 2"},
	{"load 0; load 1; load 4; else 1; do not; else 1; do neg", "-7", "0 1 2 3 5 6"},
	{"load 0; load 1; load 1; else 1; do not; else 1; do neg", "7", "0 1 2 3 4 5"},
	{"load 1; keep; else 2; drop; load 4", "false", ""},
	{"load 4; keep; else 2; drop; load 4", "false", "0 1 2"},
	{"load 1; else 4; load 4; else 2; push 1; jump 1; push 2", "2", "0 1 2 3 6"},
	{"load 1; else 4; load 1; else 2; push 1; jump 1; push 2", "1", "0 1 2 3 4 5"},
	{"load 4; else 4; load 1; else 2; push 1; jump 1; push 2", "2", "0 1 6"},
	{"load 1; else 2; push 'a'; jump 2; push 'b'; jump 0", "'a'", "0 1 2 3"},
	{"load 4; else 2; push 'a'; jump 2; push 'b'; jump 0", "'b'", "0 1 4 5"},
	{"load 1; else 2; push 1; jump 3; push 2; push 3; do +", "1", "0 1 2 3"},
	{"load 4; else 2; push 1; jump 3; push 2; push 3; do +", "5", "0 1 4 5 6"},

	// What goes over, and how many were done ahead of it.
	{"push 1; push 0; do /", "ErrOver", "0 1"},
	{"push 1; push 0; do %", "ErrOver", "0 1"},
	{"load 0; push 0; do /; drop; push 1", "ErrOver", "0 1"},
	{"push 9223372036854775807; push 1; do +", "ErrOver", "0 1"},
	{"push -9223372036854775808; push 1; do -", "ErrOver", "0 1"},
	{"push -9223372036854775808; do neg", "ErrOver", "0"},
	{"push -9223372036854775808; push -1; do /", "ErrOver", "0 1"},
	{"push -9223372036854775808; push -1; do *", "ErrOver", "0 1"},
	{"push 3037000500; keep; do *", "ErrOver", "0 1"},
	{"push 3037000499; keep; do *", "9223372030926249001", ""},
	{"push 0; push 1; push 0; do /; do *", "ErrOver", "0 1 2"},
	{"jump 0; jump 0; push 1; push 0; do %; jump 0", "ErrOver", "0 1 2 3"},
	{"push 1; push 0; do /; push 1; push 0; do %; do +", "ErrOver", "0 1"},
	{"load 1; else 4; push 1; push 0; do /; jump 1; push 2", "ErrOver", "0 1 2 3"},
	{"load 4; else 4; push 1; push 0; do /; jump 1; push 2", "2", "0 1 6"},
	{"load 1; else 2; push 2; jump 3; push 1; push 0; do /", "2", "0 1 2 3"},
	{"load 4; else 2; push 2; jump 3; push 1; push 0; do /", "ErrOver", "0 1 4 5"},
	{"push 1; load 4; else 1; do neg; push 0; do /", "ErrOver", "0 1 2 4"},
}

// wantOf is the answer that a line of the table tells.
func wantOf(want, path string, count int) answer {
	a := answer{path: upTo(count)}
	if path != "" {
		a.path = nil
	}
	for _, n := range strings.Fields(path) {
		at, _ := strconv.Atoi(n)
		a.path = append(a.path, at)
	}
	if want == "ErrOver" {
		a.how = api.ErrOver
		return a
	}
	a.v, _ = val.Parse(want)
	return a
}

// TestEnds is of M1: what lies there at the end, how many were done, and which, with as much fuel as is needed, with more and less.
func TestEnds(t *testing.T) {
	for _, c := range ends {
		l := read(c.text)
		want := wantOf(c.want, c.path, len(l))
		hold(t, l, columns(), values(), want)
		for _, fuel := range noFuels() {
			holdRun(t, l, columns(), values(), fuel, api.Val{}, 0, api.ErrRange)
		}
		if got := meant(l, values()); got.v != want.v || got.how != want.how || !slices.Equal(got.path, want.path) {
			t.Errorf("of %q is meant %v, want %v", c.text, got, want)
		}
	}
}

// TestFuel is of M1: each fuel from 0 on, written out, of what ends and of what goes over.
func TestFuel(t *testing.T) {
	ended := read("load 0; load 5; do -; keep; do *")
	over := read("load 0; jump 0; push 0; do /; keep; do *")
	for fuel := range 20 {
		v, done, how := api.Val{}, fuel, api.ErrFuel
		if fuel >= 5 {
			v, done, how = number(100), 5, api.OK
		}
		holdRun(t, ended, columns(), values(), fuel, v, done, how)

		// The operation that goes over is the fourth: with fuel for three alone it would be one more.
		done, how = fuel, api.ErrFuel
		if fuel >= 4 {
			done, how = 3, api.ErrOver
		}
		holdRun(t, over, columns(), values(), fuel, api.Val{}, done, how)
	}
	holdTrace(t, ended, columns(), values(), []int{0, 1, 2, 3, 4}, api.OK)
	holdTrace(t, over, columns(), values(), nil, api.ErrOver)
}

// TestFuelRange is of M1: just as much fuel as may be, and one more and less, whatever the instructions would come to.
func TestFuelRange(t *testing.T) {
	for _, text := range []string{"push 1", "push 1; push 0; do /", "load 1; else 2; push 1; jump 1; push 2"} {
		l := read(text)
		for _, fuel := range noFuels() {
			holdRun(t, l, columns(), values(), fuel, api.Val{}, 0, api.ErrRange)
		}
		want := meant(l, values())
		for _, fuel := range []int{999_999, 1_000_000} {
			holdRun(t, l, columns(), values(), fuel, want.v, len(want.path), want.how)
		}
		holdRun(t, l, columns(), values(), 0, api.Val{}, 0, api.ErrFuel)
	}
}

// TestOperations is of M1: each operation that Do may do, of values at their edges.
func TestOperations(t *testing.T) {
	some := []api.Val{
		number(math.MinInt), number(math.MinInt + 1), number(-7), number(-1), number(0), number(1), number(2), number(3_037_000_500), number(1 << 62), number(math.MaxInt),
		truth(0), truth(1), words(""), words("'"), words("a"), words("aa"), words("b"), words(long(40)),
	}
	ended, went := 0, 0
	for n, op := range operations {
		if op == "" {
			continue
		}
		count, _ := kind.Count(op)
		for _, args := range choices(some, count) {
			var cols []api.Col
			var l []api.Instr
			for i, v := range args {
				cols = append(cols, api.Col{Name: string("xy"[i]), Type: v.Type})
				l = append(l, api.Instr{What: api.Load, Arg: i})
			}
			l = append(l, api.Instr{What: api.Do, Arg: n})
			if _, err := verify.Check(l, cols); err != nil {
				holdWrong(t, l, cols, args, plain.Told(err))
				continue
			}
			want := meant(l, args)
			hold(t, l, cols, args, want)
			v, err := eval.Do(op, args)
			if v != want.v || plain.Told(err) != want.how {
				t.Errorf("Do of %s, %v is %v, %v, want %v", op, args, v, err, want)
			}
			if want.how == api.OK {
				ended++
			} else {
				went++
			}
		}
	}
	if ended < 800 || went < 50 {
		t.Errorf("%d ended, %d went over", ended, went)
	}
}

// wrongs are instructions over the columns that chapter 8's Check does not let through.
var wrongs = []struct {
	text string
	how  api.Errno
}{
	{"", api.ErrShape},
	{"push 1; jump 1; drop; jump 0", api.ErrNone},
	{"jump 1; push 1", api.ErrNone},
	{"what 0", api.ErrRange},
	{"what 8", api.ErrRange},
	{"what -1", api.ErrRange},
	{"push 1; what 8", api.ErrRange},
	{"load -1", api.ErrRange},
	{"load 6", api.ErrRange},
	{"push true; push true; do 0", api.ErrRange},
	{"push true; push true; do 1", api.ErrRange},
	{"push true; push 1; push 1; do 16", api.ErrRange},
	{"push true; do 17", api.ErrRange},
	{"push true; do -1", api.ErrRange},
	{"push 1; jump -1", api.ErrRange},
	{"push 1; jump -2", api.ErrRange},
	{"push 1; jump 1", api.ErrRange},
	{"push 1; push true; else -2", api.ErrRange},
	{"push 1; push true; else 1", api.ErrRange},
	{"jump 9223372036854775807; push 1", api.ErrRange},
	{"drop", api.ErrState},
	{"keep", api.ErrState},
	{"else 0", api.ErrState},
	{"do not", api.ErrState},
	{"push 1; do +", api.ErrState},
	{"push 1; drop; drop", api.ErrState},
	{"push 1; do not", api.ErrType},
	{"push 'a'; push 'b'; do +", api.ErrType},
	{"push 1; push 'a'; do =", api.ErrType},
	{"push 1; else 0", api.ErrType},
	{"load 1; else 1; push 1", api.ErrShape},
	{"load 1; else 2; push 1; jump 1; push 'a'", api.ErrShape},
	{"push 1; push 2", api.ErrShape},
	{"push 1; drop", api.ErrShape},
	{"jump 0", api.ErrShape},

	// It is told also where it would not be done, or only behind what goes over.
	{"push true; else 2; push 1; jump 1; push 'a'", api.ErrShape},
	{"push true; else 3; push 1; jump 2; load 6; drop; push 1", api.ErrNone},
	{"push true; else 2; push 1; jump 1; load 6", api.ErrRange},
	{"push true; else 2; push 1; jump 2; push 1; do not", api.ErrType},
	{"push 1; push 0; do /; do not", api.ErrType},
	{"push 1; push 0; do /; drop", api.ErrShape},
	{"push 1; push 0; do /; load 6", api.ErrRange},
}

// TestWrong is of M1: the errors of chapter 8's Check, ahead of whatever the row and the fuel are.
func TestWrong(t *testing.T) {
	for _, c := range wrongs {
		l := read(c.text)
		if _, err := verify.Check(l, columns()); plain.Told(err) != c.how {
			t.Errorf("Check of %q: %v, want %v", c.text, err, c.how)
		}
		for _, r := range [][]api.Val{values(), nil, values()[:5], append(values(), number(1)), make([]api.Val, 6), make([]api.Val, 10_000)} {
			holdWrong(t, l, columns(), r, c.how)
		}
	}
	full := slices.Repeat(read("push true"), 65)
	for _, r := range [][]api.Val{values(), nil} {
		holdWrong(t, append(full, slices.Repeat(read("do ="), 64)...), columns(), r, api.ErrFull)
	}
	for _, v := range []api.Val{{}, {Type: 4}, {Type: math.MinInt}, truth(2), {Type: api.Int, S: "1"}, {Type: api.Text, N: 1}, words("\n"), words(long(41))} {
		holdWrong(t, []api.Instr{{What: api.Push, Val: v}}, columns(), values(), plain.Told(val.Check(v)))
	}
}

// wrongRows are such of the columns that chapter 2's Check does not let through.
func wrongRows() []struct {
	r   []api.Val
	how api.Errno
} {
	with := func(i int, v api.Val) []api.Val {
		r := values()
		r[i] = v
		return r
	}
	return []struct {
		r   []api.Val
		how api.Errno
	}{
		{nil, api.ErrShape},
		{[]api.Val{}, api.ErrShape},
		{values()[:5], api.ErrShape},
		{append(values(), number(1)), api.ErrShape},
		{make([]api.Val, 100_000), api.ErrShape},
		{make([]api.Val, 6), api.ErrRange},
		{with(5, api.Val{}), api.ErrRange},
		{with(0, api.Val{Type: math.MaxInt}), api.ErrRange},
		{with(1, truth(2)), api.ErrRange},
		{with(4, truth(-1)), api.ErrRange},
		{with(2, words(long(41))), api.ErrFull},
		{with(3, words("\x7f")), api.ErrSyntax},
		{with(0, api.Val{Type: api.Int, S: "7"}), api.ErrShape},
		{with(2, api.Val{Type: api.Text, N: 1}), api.ErrShape},
		{with(0, truth(1)), api.ErrType},
		{with(5, words("a")), api.ErrType},
		{with(3, number(0)), api.ErrType},

		// The first that has a fault.
		{append(with(0, truth(1))[:5], api.Val{}), api.ErrType},
		{append(with(0, words("\n"))[:5], api.Val{}), api.ErrSyntax},
	}
}

// TestWrongRow is of M1: the errors of chapter 2's Check, also of columns that are not loaded, behind those of the instructions and ahead of the fuel's, of ErrOver and of ErrFuel.
func TestWrongRow(t *testing.T) {
	for _, c := range wrongRows() {
		if err := row.Check(columns(), c.r); plain.Told(err) != c.how {
			t.Errorf("Check of %s: %v, want %v", brief(c.r), err, c.how)
		}
		for _, text := range []string{"push 1", "load 0", "load 5", "push 1; push 0; do /", "push true; else 2; push 1; jump 1; load 0"} {
			holdWrong(t, read(text), columns(), c.r, c.how)
		}
		holdWrong(t, read("push 1; do not"), columns(), c.r, api.ErrType)
		holdWrong(t, read("load 6"), columns(), c.r, api.ErrRange)
		holdWrong(t, read("jump 1; push 1"), columns(), c.r, api.ErrNone)
	}
}

// TestSchema is of M1: columns that are none, ahead of all but too many instructions.
func TestSchema(t *testing.T) {
	i := api.Col{Name: "i", Type: api.Int}
	for _, c := range []struct {
		l   []api.Col
		how api.Errno
	}{
		{nil, api.ErrNone},
		{[]api.Col{}, api.ErrNone},
		{append(columns(), api.Col{Name: "x", Type: api.Int}), api.ErrFull},
		{make([]api.Col, 100_000), api.ErrFull},
		{[]api.Col{{}}, api.ErrSyntax},
		{[]api.Col{i, {Name: "I", Type: api.Int}}, api.ErrSyntax},
		{[]api.Col{{Name: "abcdefghi", Type: api.Int}}, api.ErrSyntax},
		{[]api.Col{i, {Name: "j", Type: 4}}, api.ErrRange},
		{[]api.Col{i, i}, api.ErrClash},
	} {
		for _, r := range [][]api.Val{nil, values(), {number(1), number(1)}, {{}}} {
			for _, text := range []string{"", "push 1", "load 0", "drop", "what 0", "push 1; push 0; do /"} {
				holdWrong(t, read(text), c.l, r, c.how)
			}
			holdWrong(t, slices.Repeat(read("keep"), 1_200), c.l, r, c.how)
			holdWrong(t, slices.Repeat(read("keep"), 1_201), c.l, r, api.ErrFull)
		}
	}
}

// TestColumns is of M1: rows of each count of columns.
func TestColumns(t *testing.T) {
	for count := 1; count <= 6; count++ {
		for at := range 6 {
			l := []api.Instr{{What: api.Load, Arg: at}}
			if at >= count {
				holdWrong(t, l, columns()[:count], values()[:count], api.ErrRange)
				continue
			}
			hold(t, l, columns()[:count], values()[:count], answer{v: values()[at], path: upTo(1)})
		}
		holdWrong(t, read("load 0"), columns()[:count], values()[:count-1], api.ErrShape)
	}
}

// wide are right lists of just as many instructions as may be, that do all of them, or few, or as the row tells.
func wide() map[string][]api.Instr {
	fill := func(begin, with, end string) []api.Instr {
		l, last := read(begin), read(end)
		for again := read(with); len(l)+len(again)+len(last) <= api.MaxCode; {
			l = append(l, again...)
		}
		for len(l)+len(last) < api.MaxCode {
			l = append(l, read("jump 0")...)
		}
		return append(l, last...)
	}
	l := map[string][]api.Instr{
		"not":   fill("load 1", "do not", ""),
		"neg":   fill("load 0", "do neg", ""),
		"jump":  fill("load 2", "jump 0", ""),
		"drop":  fill("load 2", "load 5; drop", ""),
		"keep":  fill("load 0", "keep; do *", "push 3; do %"),
		"else":  fill("load 3", "load 1; else 0", ""),
		"over":  fill("load 0", "do neg", "push 0; do /"),
		"first": fill("load 0; push 0; do %", "do neg", ""),
		"ways":  fill("load 0", "load 1; else 2; do neg; jump 2; keep; do -", ""),
		"turns": fill("load 0", "load 4; else 1; do neg; load 1; else 1; do neg", ""),
		"high":  fill("load 0", strings.Repeat("keep; ", 63)+strings.Repeat("do -; ", 63), ""),
		"hops":  fill("load 5", "load 1; else 1; jump 1; jump 1; jump 0; push 1; drop", ""),
	}
	l["far"] = fill("load 2; load 4; else 1197", "jump 0", "")
	l["near"] = fill("load 2; load 1; else 1197", "jump 0", "")
	r := rand.New(rand.NewSource(5))
	for n := range 10 {
		l["chance "+strconv.Itoa(n)] = wideBy(r)
	}
	return l
}

// wideBy is such a list by chance: parts one behind the other, each of which but the last is dropped again.
func wideBy(r *rand.Rand) []api.Instr {
	var l []api.Instr
	for {
		one := part(r, "ibt"[r.Intn(3)], 1+r.Intn(4))
		if len(l)+len(one)+1 > api.MaxCode {
			break
		}
		l = slices.Concat(l, one, read("drop"))
	}
	l[len(l)-1] = read("jump 0")[0]
	return append(l, slices.Repeat(read("jump 0"), api.MaxCode-len(l))...)
}

// TestWide is of M1 and M2: just as many instructions as may be, none of which is done twice, and one more, of which none is done.
func TestWide(t *testing.T) {
	counts := map[string]int{"not": 1_200, "neg": 1_200, "jump": 1_200, "drop": 1_200, "else": 1_200, "over": 1_199, "first": 2, "far": 3, "near": 1_200}
	for name, l := range wide() {
		if len(l) != api.MaxCode {
			t.Fatalf("%s has %d", name, len(l))
		}
		for _, r := range rows() {
			want := meant(l, r)
			hold(t, l, columns(), r, want)
			if n, asked := counts[name]; asked && r[1] == truth(1) && r[4] == truth(0) && len(want.path) != n {
				t.Errorf("%s: %d are done, want %d", name, len(want.path), n)
			}
		}
		holdWrong(t, append(l, read("jump 0")...), columns(), values(), api.ErrFull)
	}
	holdWrong(t, make([]api.Instr, 1_201), columns(), nil, api.ErrFull)
	holdWrong(t, make([]api.Instr, 300_000), columns(), nil, api.ErrFull)
}

// rows are some of the columns, of all Bools.
func rows() [][]api.Val {
	var all [][]api.Val
	for n := range 4 {
		r := values()
		r[1], r[4] = truth(n/2), truth(n%2)
		all = append(all, r)
	}
	return all
}

// choices are all lists of n of these.
func choices[T any](l []T, n int) [][]T {
	if n == 0 {
		return [][]T{nil}
	}
	var all [][]T
	for _, ahead := range choices(l, n-1) {
		for _, one := range l {
			all = append(all, append(slices.Clone(ahead), one))
		}
	}
	return all
}

// holdChecked is of F1 once more: what Check lets through ends with a value of the type that Type tells, or goes over, in no more steps than there are instructions; of all else Run and Trace tell Check's error. It gives what Check tells.
func holdChecked(t *testing.T, l []api.Instr, cols []api.Col, rows ...[]api.Val) api.Errno {
	t.Helper()
	_, err := verify.Check(l, cols)
	for _, r := range rows {
		if err != nil {
			holdRun(t, l, cols, r, api.MaxTime, api.Val{}, 0, plain.Told(err))
			holdRun(t, l, cols, r, -1, api.Val{}, 0, plain.Told(err))
			holdTrace(t, l, cols, r, nil, plain.Told(err))
			continue
		}
		v, n, bad := vm.Run(l, cols, r, len(l))
		of, _ := verify.Type(l, cols)
		if bad != nil && plain.Told(bad) != api.ErrOver || bad == nil && (v.Type != of || val.Check(v) != nil) || n > len(l) {
			t.Errorf("Run of %s of %s: %v, %d, %v, want type %d", brief(code.Print(l)), brief(r), v, n, bad, of)
		}
		hold(t, l, cols, r, meant(l, r))
	}
	return plain.Told(err)
}

// TestShort is of M1, M2 and F1 once more: all short lists of some instructions, right and wrong.
func TestShort(t *testing.T) {
	all := read("push 0; push 'a'; load 0; load 1; load 9; do %; do =; do not; do 0; jump 0; jump 1; else 0; else 1; keep; drop; what 8")
	few := read("push 1; load 4; do =; jump 1; else 1; else 2; keep; drop")
	fewer := read("load 0; load 1; jump 1; else 1; else 2")
	count := map[api.Errno]int{}
	for _, c := range []struct {
		of   []api.Instr
		most int
	}{
		{all, 4}, {few, 5}, {fewer, 7},
	} {
		for n := range c.most + 1 {
			for _, l := range choices(c.of, n) {
				count[holdChecked(t, l, columns(), rows()[1], rows()[2])]++
			}
		}
	}
	for _, how := range []api.Errno{api.OK, api.ErrNone, api.ErrRange, api.ErrState, api.ErrType, api.ErrShape} {
		if count[how] < 100 {
			t.Errorf("there are %d of %v", count[how], how)
		}
	}
}

// laid is a push, or a load, of a value of a type, as a letter: i Int, b Bool, t Text.
func laid(r *rand.Rand, of byte) []api.Instr {
	if r.Intn(3) > 0 {
		places := map[byte][]int{'i': {0, 5}, 'b': {1, 4}, 't': {2, 3}}[of]
		return []api.Instr{{What: api.Load, Arg: places[r.Intn(2)]}}
	}
	v := map[byte]api.Val{'i': number(r.Intn(5) - 1), 'b': truth(r.Intn(2)), 't': words(long(r.Intn(3)))}[of]
	return []api.Instr{{What: api.Push, Val: v}}
}

// part are instructions by chance that lay one of a type on the stack, at most so deep.
func part(r *rand.Rand, of byte, depth int) []api.Instr {
	if depth == 0 || r.Intn(8) == 0 {
		return laid(r, of)
	}
	less := func(of byte) []api.Instr { return part(r, of, depth-1) }
	switch r.Intn(5) {
	case 0:
		return slices.Concat(less(of), less("ibt"[r.Intn(3)]), read("drop"))
	case 1:
		so, not := less(of), less(of)
		skip := []api.Instr{{What: api.Else, Arg: len(so) + 1}}
		return slices.Concat(less('b'), skip, so, []api.Instr{{What: api.Jump, Arg: len(not)}}, not)
	case 2:
		again := slices.Concat(read("drop"), less(of))
		return slices.Concat(less(of), less('b'), []api.Instr{{What: api.Else, Arg: len(again)}}, again)
	case 3:
		return slices.Concat(less(of), read("keep; drop; jump 0"))
	}
	switch of {
	case 'i':
		sign := []string{"do +", "do -", "do *", "do /", "do %"}[r.Intn(5)]
		return [][]api.Instr{
			slices.Concat(less('i'), less('i'), read(sign)),
			slices.Concat(less('t'), read("do len")),
			slices.Concat(less('i'), read("keep; do *")),
			slices.Concat(less('i'), read("do neg")),
		}[r.Intn(4)]
	case 'b':
		same := "ibt"[r.Intn(3)]
		sign := []string{"do =", "do <>", "do <", "do <=", "do >", "do >="}[r.Intn(6)]
		if r.Intn(4) == 0 {
			return append(less('b'), read("do not")...)
		}
		return slices.Concat(less(same), less(same), read(sign))
	}
	return less('t')
}

// bent is a list with some of it by chance another one, gone, or twice.
func bent(r *rand.Rand, l []api.Instr) []api.Instr {
	l = slices.Clone(l)
	for range r.Intn(3) {
		if len(l) == 0 {
			break
		}
		i := r.Intn(len(l))
		switch r.Intn(5) {
		case 0:
			l[i] = api.Instr{What: 1 + r.Intn(7), Arg: r.Intn(18), Val: number(1)}
		case 1:
			l[i].Arg += r.Intn(5) - 2
		case 2:
			l = slices.Insert(l, i, l[i])
		case 3:
			l = slices.Delete(l, i, i+1)
		case 4:
			j := r.Intn(len(l))
			l[i], l[j] = l[j], l[i]
		}
	}
	return l
}

// someRow is a row of these columns by chance.
func someRow(r *rand.Rand, cols []api.Col) []api.Val {
	var vals []api.Val
	for _, c := range cols {
		n := r.Intn(7) - 3
		if r.Intn(4) == 0 {
			n = []int{math.MinInt, math.MaxInt, 3_037_000_500, 1 << 62}[r.Intn(4)]
		}
		vals = append(vals, []api.Val{number(n), truth(r.Intn(2)), words(long(r.Intn(41)))}[c.Type-1])
	}
	return vals
}

// TestSome is of M1, M2 and F1 once more: lists by chance, right ones, and such that are no more, over columns that are fewer too.
func TestSome(t *testing.T) {
	r := rand.New(rand.NewSource(1))
	count := map[api.Errno]int{}
	for range 6_000 {
		l := part(r, "ibt"[r.Intn(3)], r.Intn(6))
		if how := holdChecked(t, l, columns(), someRow(r, columns()), someRow(r, columns())); how != api.OK && len(l) <= api.MaxCode {
			t.Fatalf("%s is meant to be right: %v", brief(code.Print(l)), how)
		}
		l = bent(r, l)
		cols := columns()[:1+r.Intn(6)]
		count[holdChecked(t, l, cols, someRow(r, cols), someRow(r, cols))]++
	}
	for _, how := range []api.Errno{api.OK, api.ErrNone, api.ErrRange, api.ErrState, api.ErrType, api.ErrShape} {
		if count[how] < 50 {
			t.Errorf("there are %d of %v: %v", count[how], how, count)
		}
	}
}

// TestNotNeeded is of M1 and F1 once more: Arg and Val that are not needed do not matter.
func TestNotNeeded(t *testing.T) {
	for _, c := range ends {
		for _, n := range []int{1, -1, 5, math.MinInt, math.MaxInt} {
			for _, v := range []api.Val{{Type: n, N: n, S: "\n"}, truth(1), number(0)} {
				l := read(c.text)
				for i, in := range l {
					if in.What == api.Push || in.What == api.Keep || in.What == api.Drop {
						l[i].Arg = n
					}
					if in.What != api.Push {
						l[i].Val = v
					}
				}
				hold(t, l, columns(), values(), wantOf(c.want, c.path, len(l)))
			}
		}
	}
}

func col(name string) api.Expr { return api.Expr{Op: "col", Name: name} }

func is(v api.Val) api.Expr { return api.Expr{Op: "val", Val: v} }

func op(name string, args ...api.Expr) api.Expr { return api.Expr{Op: name, Args: args} }

// holdCompiled is of K1 and F1 once more: what Compile gives comes, for each row, to what Eval does. It tells how many went over.
func holdCompiled(t *testing.T, e api.Expr, cols []api.Col, rows ...[]api.Val) int {
	t.Helper()
	l, fault := code.Compile(e, cols)
	if fault != (api.Fault{}) {
		t.Fatalf("Compile of %s: %v", brief(e), fault)
	}
	went := 0
	for _, r := range rows {
		want, err := eval.Eval(e, cols, r)
		v, n, bad := vm.Run(l, cols, r, len(l))
		if v != want || plain.Told(bad) != plain.Told(err) {
			t.Errorf("%s of %s, compiled to %s: %v, %v, want %v, %v", brief(e), brief(r), brief(code.Print(l)), v, bad, want, err)
		}
		path, ill := vm.Trace(l, cols, r)
		if plain.Told(ill) != plain.Told(err) || err == nil && len(path) != n || err != nil && len(path) != 0 {
			t.Errorf("%s of %s, compiled to %s: %d are done, traced are %v, %v", brief(e), brief(r), brief(code.Print(l)), n, path, ill)
		}
		if err != nil {
			went++
		}
	}
	return went
}

// TestCompiledTexts is of K1 once more: expressions as they are read, and what they come to of the row above.
func TestCompiledTexts(t *testing.T) {
	for _, c := range []struct {
		text, want string
	}{
		{"i", "7"},
		{"t", "'it''s'"},
		{"'x'", "'x'"},
		{"i + abcdefgh * 2 - 1", "0"},
		{"i - (abcdefgh - 1)", "11"},
		{"- i % 4", "-3"},
		{"not b or neg", "false"},
		{"b and not neg", "true"},
		{"len(t) + len('a''b')", "7"},
		{"t <> '' and len(t) > 1 or i % 0 = 0", "true"},
		{"if(b, t, '')", "'it''s'"},
		{"if(neg, 1 / 0, if(b and neg, 1 / 0, i))", "7"},
		{"if(if(b, neg, b), 1, if(neg, 2, 3)) + if(i < 0, - i, i) * 2", "17"},
		{"b or 1 / 0 = 1", "true"},
		{"neg and 1 / 0 = 1", "false"},
		{"- 9223372036854775807 - 1", "-9223372036854775808"},
		{"b and 1 / 0 = 1", "ErrOver"},
		{"neg or 1 / 0 = 1", "ErrOver"},
		{"if(b, 1 / 0, 1)", "ErrOver"},
		{"1 / 0 = 1 or true", "ErrOver"},
		{"0 * (1 / 0)", "ErrOver"},
		{"9223372036854775807 * 2 / 2", "ErrOver"},
	} {
		e, fault := tree.Parse(c.text)
		if fault != (api.Fault{}) {
			t.Fatalf("Parse(%q): %v", c.text, fault)
		}
		holdCompiled(t, e, columns(), append(rows(), values())...)
		l, _ := code.Compile(e, columns())
		v, _, err := vm.Run(l, columns(), values(), api.MaxTime)
		got, _ := val.Print(v)
		if err != nil {
			got = plain.Told(err).Error()
		}
		if got != c.want {
			t.Errorf("%q comes to %s, want %s", c.text, got, c.want)
		}
	}
}

// to is an expression as deep as it may be, where each has the next one as its Arg of that place.
func to(o string, leaf api.Expr, place, count int) api.Expr {
	e := leaf
	for range api.MaxDepth - 1 {
		args := slices.Repeat([]api.Expr{leaf}, count)
		args[place] = e
		e = op(o, args...)
	}
	return e
}

// bush has n nodes of an op of two, which must be odd, and is not deep.
func bush(o string, leaf api.Expr, n int) api.Expr {
	if n == 1 {
		return leaf
	}
	left := (n - 1) / 2
	left -= 1 - left%2
	return op(o, bush(o, leaf, left), bush(o, leaf, n-1-left))
}

// TestCompiledGreat is of K1 once more: expressions as deep and as great as may be, of each op, from each side.
func TestCompiledGreat(t *testing.T) {
	leaves := map[int][]api.Expr{api.Int: {col("i"), is(number(1)), is(number(0))}, api.Bool: {col("b"), col("neg")}, api.Text: {col("t")}}
	held := 0
	for _, o := range kind.Ops() {
		count, _ := kind.Count(o)
		for of, some := range leaves {
			// Only what is again of the type of its Args can stand within itself.
			if own, err := kind.Rule(o, slices.Repeat([]int{of}, count)); err != nil || own != of {
				continue
			}
			for _, leaf := range some {
				for place := range count {
					holdCompiled(t, to(o, leaf, place, count), columns(), rows()...)
					held++
				}
				if count == 2 {
					holdCompiled(t, bush(o, leaf, 199), columns(), rows()...)
					held++
				}
			}
		}
	}
	if held < 70 {
		t.Errorf("%d were held", held)
	}
}

// some is an expression by chance, of that type and at most so deep.
func some(r *rand.Rand, depth, of int) api.Expr {
	less := func(of int) api.Expr { return some(r, depth-1, of) }
	if depth <= 1 || r.Intn(6) == 0 {
		if r.Intn(3) == 0 {
			return is([]api.Val{number(r.Intn(5)), truth(r.Intn(2)), words(long(r.Intn(41)))}[of-1])
		}
		return col([][]string{{"i", "abcdefgh"}, {"b", "neg"}, {"t", "t"}}[of-1][r.Intn(2)])
	}
	if r.Intn(4) == 0 {
		return op("if", less(api.Bool), less(of), less(of))
	}
	switch of {
	case api.Int:
		sign := []string{"+", "-", "*", "/", "%"}[r.Intn(5)]
		return []api.Expr{op(sign, less(of), less(of)), op("neg", less(of)), op("len", less(api.Text))}[r.Intn(3)]
	case api.Bool:
		same := 1 + r.Intn(3)
		sign := []string{"=", "<>", "<", "<=", ">", ">="}[r.Intn(6)]
		return []api.Expr{op("or", less(of), less(of)), op("and", less(of), less(of)), op("not", less(of)), op(sign, less(same), less(same))}[r.Intn(4)]
	}
	return less(of)
}

// TestCompiledSome is of K1 and F1 once more: expressions and rows by chance, over columns in any order.
func TestCompiledSome(t *testing.T) {
	r := rand.New(rand.NewSource(2))
	right, went := 0, 0
	for range 6_000 {
		e := some(r, 1+r.Intn(7), 1+r.Intn(3))
		if tree.Size(e) > api.MaxNodes {
			continue
		}
		cols := columns()
		r.Shuffle(len(cols), func(i, j int) { cols[i], cols[j] = cols[j], cols[i] })
		went += holdCompiled(t, e, cols, someRow(r, cols), someRow(r, cols), someRow(r, cols))
		right++
	}
	if right < 5_000 || went < 300 {
		t.Errorf("%d were right, %d rows went over", right, went)
	}
}

// told is what Run and Trace are to tell of anything, in the chapter's order: the errors of Run and Trace ahead of all that is done, and, if there is none, what is meant.
func told(l []api.Instr, cols []api.Col, r []api.Val, fuel int) (run, trace api.Errno, want answer) {
	if _, err := verify.Check(l, cols); err != nil {
		return plain.Told(err), plain.Told(err), want
	}
	if err := row.Check(cols, r); err != nil {
		return plain.Told(err), plain.Told(err), want
	}
	want = meant(l, r)
	if fuel < 0 || fuel > 1_000_000 {
		return api.ErrRange, want.how, want
	}
	run = want.how
	if fuel < len(want.path) || fuel == len(want.path) && want.how != api.OK {
		run = api.ErrFuel
	}
	return run, want.how, want
}

// numbers are such that are near and far off.
func numbers() []int {
	l := []int{
		math.MinInt, math.MinInt + 1, math.MinInt + 9, -1 << 32, -1<<32 + 2, -1 << 31, -256 + 9,
		256 + 2, 256 + 9, 999_999, 1_000_000, 1_000_001, 1 << 31, 1<<32 + 2, 1<<62 + 2, 1<<63 - 17, math.MaxInt - 1, math.MaxInt,
	}
	for n := -9; n <= 20; n++ {
		l = append(l, n)
	}
	return l
}

// TestAny is of P1 and P3: any numbers as instructions, columns, rows and fuel, of which nothing panics, and what is wrong is told in the chapter's order.
func TestAny(t *testing.T) {
	r := rand.New(rand.NewSource(3))
	from := numbers()
	chance := func() int { return from[r.Intn(len(from))] }
	count := map[api.Errno]int{}
	for range 100_000 {
		l := bent(r, part(r, "iibt"[r.Intn(4)], r.Intn(4)))
		if len(l) > 0 && r.Intn(4) == 0 {
			l[r.Intn(len(l))] = api.Instr{What: chance(), Arg: chance(), Val: api.Val{Type: chance(), N: chance(), S: long(r.Intn(50))}}
		}
		cols := columns()
		if r.Intn(5) == 0 {
			cols = append(cols[:r.Intn(7)], api.Col{Name: long(r.Intn(10)), Type: chance()})
		}
		vals := someRow(r, columns())
		if r.Intn(5) == 0 {
			vals = append(vals[:r.Intn(6)], api.Val{Type: chance(), N: chance(), S: long(r.Intn(50))})
		}
		fuel := r.Intn(12)
		if r.Intn(4) == 0 {
			fuel = chance()
		}
		run, trace, want := told(l, cols, vals, fuel)
		count[run]++
		v, n, path := api.Val{}, 0, want.path
		switch run {
		case api.OK:
			v, n = want.v, len(want.path)
		case api.ErrOver:
			n = len(want.path)
		case api.ErrFuel:
			n = fuel
		}
		if trace != api.OK {
			path = nil
		}
		holdRun(t, l, cols, vals, fuel, v, n, run)
		holdTrace(t, l, cols, vals, path, trace)
	}
	for how := api.OK; how <= api.ErrFuel; how++ {
		if how != api.ErrClash && count[how] < 50 {
			t.Errorf("there are %d of %v: %v", count[how], how, count)
		}
	}
}

// TestListsStay is of P2 and P4: instructions, columns and row stay as they are, and what lies behind their length is neither read nor written.
func TestListsStay(t *testing.T) {
	r := rand.New(rand.NewSource(4))
	right := 0
	for range 5_000 {
		l := append(part(r, "ibt"[r.Intn(3)], r.Intn(5)), read("push 1; what 8; jump 0; drop")...)
		n := len(l) - 4
		cols, vals := append(columns(), api.Col{}, api.Col{Name: "x", Type: api.Int}), append(values(), api.Val{}, number(5))
		count, many := 6, 6
		switch r.Intn(4) {
		case 0:
			n = r.Intn(len(l) + 1)
		case 1:
			count, many = r.Intn(7), r.Intn(7)
		}
		wasInstrs, wasCols, wasVals := slices.Clone(l), slices.Clone(cols), slices.Clone(vals)
		_, trace, want := told(slices.Clone(l[:n]), slices.Clone(cols[:count]), slices.Clone(vals[:many]), 0)
		if trace == api.OK || trace == api.ErrOver {
			hold(t, l[:n], cols[:count], vals[:many], want)
			right++
		} else {
			holdWrong(t, l[:n], cols[:count], vals[:many], trace)
		}
		if !slices.Equal(l, wasInstrs) || !slices.Equal(cols, wasCols) || !slices.Equal(vals, wasVals) {
			t.Errorf("%s, or its columns, or %s were written into", brief(code.Print(wasInstrs)), brief(wasVals))
		}
	}
	if right < 2_000 {
		t.Errorf("%d were right", right)
	}
}

// TestNothingKept is of P2: what is done afterwards with what was handed in, or handed out, changes no other answer.
func TestNothingKept(t *testing.T) {
	const text = "load 1; else 2; load 2; jump 1; push 'b'"
	l, cols, r := read(text), columns(), values()
	v, _, _ := vm.Run(l, cols, r, 100)
	first, _ := vm.Trace(l, cols, r)
	second, _ := vm.Trace(l, cols, r)
	clear(second[:cap(second)])
	hold(t, l, cols, r, answer{v: words("it's"), path: []int{0, 1, 2, 3}})
	r[2] = words("other")
	hold(t, l, cols, r, answer{v: words("other"), path: []int{0, 1, 2, 3}})
	r[1] = truth(0)
	hold(t, l, cols, r, answer{v: words("b"), path: []int{0, 1, 4}})
	l[4].Val = words("c")
	hold(t, l, cols, r, answer{v: words("c"), path: []int{0, 1, 4}})
	cols[2].Type = api.Int
	holdWrong(t, l, cols, r, api.ErrShape)
	clear(l)
	clear(cols)
	clear(r)
	holdWrong(t, l, cols, r, api.ErrSyntax)
	if v != words("it's") || !slices.Equal(first, []int{0, 1, 2, 3}) {
		t.Errorf("what was told became %v, %v", v, first)
	}
	hold(t, read(text), columns(), values(), answer{v: words("it's"), path: []int{0, 1, 2, 3}})
}

// TestTextFresh is of P2: a text that comes out shares no memory with the one that was handed in.
func TestTextFresh(t *testing.T) {
	for _, text := range []string{"load 2", "push 'it''s'", "load 2; keep; drop", "load 1; else 2; load 2; jump 1; push 'b'"} {
		l, r := read(text), values()
		v, _, err := vm.Run(l, columns(), r, 100)
		if err != nil || v != words("it's") {
			t.Fatalf("Run of %q: %v, %v", text, v, err)
		}
		for _, s := range []string{l[0].Val.S, r[2].S} {
			if s != "" && unsafe.StringData(v.S) == unsafe.StringData(s) {
				t.Errorf("Run of %q hands out the text that was handed in", text)
			}
		}
	}
}

// TestUsedUp is of P1 and P2: one call of any end changes no call behind it.
func TestUsedUp(t *testing.T) {
	l := read("load 0; load 5; do -")
	for _, c := range ends {
		other := read(c.text)
		for fuel := range 4 {
			vm.Run(other, columns(), values(), fuel)
			vm.Trace(other, columns(), values())
			holdRun(t, l, columns(), values(), 3, number(10), 3, api.OK)
			holdTrace(t, l, columns(), values(), []int{0, 1, 2}, api.OK)
		}
	}
}

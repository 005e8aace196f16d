package verify_test

import (
	"fmt"
	"math"
	"math/rand"
	"slices"
	"strconv"
	"strings"
	"testing"

	"sluicebook/api"
	"sluicebook/code"
	"sluicebook/eval"
	"sluicebook/kind"
	"sluicebook/plain"
	"sluicebook/row"
	"sluicebook/tree"
	"sluicebook/val"
	"sluicebook/verify"
)

func number(n int) api.Val   { return api.Val{Type: api.Int, N: n} }
func truth(n int) api.Val    { return api.Val{Type: api.Bool, N: n} }
func words(s string) api.Val { return api.Val{Type: api.Text, S: s} }

// long is a text of so many bytes.
func long(n int) string { return strings.Repeat("z", n) }

// brief is the beginning of what is told of something, which may be very great.
func brief(a any) string { return fmt.Sprintf("%.300q", fmt.Sprint(a)) }

// names are what instructions do, by their numbers.
var names = []string{"", "push", "load", "do", "jump", "else", "keep", "drop"}

// operation is one by its number, and the types of its Args and its own, with `>` between: i Int, b Bool, t Text.
type operation struct {
	op, rules string
}

const comparison = "ii>b bb>b tt>b"

// operations are those that Do may do; "": there is none here.
var operations = []operation{
	{}, {}, {"not", "b>b"},
	{"=", comparison}, {"<>", comparison}, {"<", comparison}, {"<=", comparison}, {">", comparison}, {">=", comparison},
	{"+", "ii>i"}, {"-", "ii>i"}, {"*", "ii>i"}, {"/", "ii>i"}, {"%", "ii>i"}, {"neg", "i>i"}, {"len", "t>i"}, {},
}

// opOf is the operation of any number.
func opOf(n int) operation {
	if n < 0 || n >= len(operations) {
		return operation{}
	}
	return operations[n]
}

// read gives instructions of a text: `;` between; `do` with an operation, or any number; `what` with one for which there is none.
func read(text string) []api.Instr {
	var l []api.Instr
	for part := range strings.SplitSeq(text, ";") {
		word, of, _ := strings.Cut(strings.TrimSpace(part), " ")
		if word == "" {
			continue
		}
		in := api.Instr{What: slices.Index(names, word)}
		n, err := strconv.Atoi(of)
		in.Arg = n
		switch {
		case word == "what":
			in.What, in.Arg = n, 0
		case in.What == api.Push:
			in.Arg = 0
			in.Val, err = val.Parse(of)
		case in.What == api.Do && err != nil:
			in.Arg = slices.IndexFunc(operations, func(o operation) bool { return o.op == of })
			err = nil
		case in.What == api.Keep || in.What == api.Drop:
			err = nil
		}
		if err != nil || in.What < 0 && word != "what" {
			panic("no instruction: " + part)
		}
		l = append(l, in)
	}
	return l
}

// columns are as many as may be, two of each type.
func columns() []api.Col {
	return []api.Col{
		{Name: "i", Type: api.Int}, {Name: "b", Type: api.Bool}, {Name: "t", Type: api.Text},
		{Name: "true", Type: api.Text}, {Name: "neg", Type: api.Bool}, {Name: "abcdefgh", Type: api.Int},
	}
}

// answer is what is told of instructions: the number of the first that is wrong, and how; or of which type it ends, and the most on the stack.
type answer struct {
	at   int
	how  api.Errno
	of   int
	most int
}

// told is what verify tells. It is of P1 and P3 too: beside an error there is nothing but Check's number, and all three have the same.
func told(t *testing.T, l []api.Instr, cols []api.Col) answer {
	t.Helper()
	at, err := verify.Check(l, cols)
	of, bad := verify.Type(l, cols)
	most, ill := verify.Most(l, cols)
	got := answer{at, plain.Told(err), of, most}
	if plain.Told(bad) != got.how || plain.Told(ill) != got.how {
		t.Errorf("of %s: Check %v, Type %v, Most %v", brief(code.Print(l)), err, bad, ill)
	}
	if err != nil && (of != 0 || most != 0) || err == nil && at != 0 {
		t.Errorf("of %s: %v, with %d, %d, %d", brief(code.Print(l)), err, at, of, most)
	}
	return got
}

func hold(t *testing.T, l []api.Instr, cols []api.Col, want answer) {
	t.Helper()
	if got := told(t, l, cols); got != want {
		t.Errorf("of %d, %s: %v, want %v", len(l), brief(code.Print(l)), got, want)
	}
}

func holdWrong(t *testing.T, l []api.Instr, at int, how api.Errno) {
	t.Helper()
	hold(t, l, columns(), answer{at: at, how: how})
}

func holdRight(t *testing.T, l []api.Instr, of, most int) {
	t.Helper()
	hold(t, l, columns(), answer{of: of, most: most})
}

// letters are types as letters.
func letters(types ...int) (s string) {
	for _, t := range types {
		s += string(" ibt"[t])
	}
	return s
}

// argOf tells what is wrong with an instruction at a place of a list by itself.
func argOf(in api.Instr, at, end int, cols []api.Col) api.Errno {
	so := false
	switch in.What {
	case api.Push:
		return plain.Told(val.Check(in.Val))
	case api.Load:
		so = in.Arg >= 0 && in.Arg < len(cols)
	case api.Do:
		so = opOf(in.Arg).op != ""
	case api.Jump, api.Else:
		// All lists are short, so what is held against each other does not go over.
		so = in.Arg >= 0 && in.Arg <= api.MaxCode+1 && at+1+in.Arg <= end
	case api.Keep, api.Drop:
		so = true
	}
	if so {
		return api.OK
	}
	return api.ErrRange
}

// rulesOf are what an instruction with a right Arg may find on top, and what it leaves of that.
func rulesOf(in api.Instr, cols []api.Col) []string {
	switch in.What {
	case api.Push:
		return []string{">" + letters(in.Val.Type)}
	case api.Load:
		return []string{">" + letters(cols[in.Arg].Type)}
	case api.Do:
		return strings.Fields(opOf(in.Arg).rules)
	case api.Else:
		return []string{"b>"}
	case api.Keep:
		return []string{"i>ii", "b>bb", "t>tt"}
	case api.Drop:
		return []string{"i>", "b>", "t>"}
	}
	return []string{">"}
}

// leaves is a stack behind an instruction with a right Arg, its types as letters.
func leaves(stack string, in api.Instr, cols []api.Col) (string, api.Errno) {
	how := api.ErrState
	for _, rule := range rulesOf(in, cols) {
		off, on, _ := strings.Cut(rule, ">")
		rest, found := strings.CutSuffix(stack, off)
		if found && len(rest+on) > 64 {
			return "", api.ErrFull
		}
		if found {
			return rest + on, api.OK
		}
		if len(off) <= len(stack) {
			how = api.ErrType
		}
	}
	return "", how
}

// meant is what chapter 8 says of instructions, told from its words: what is known of each place is a text of letters behind a `:`.
func meant(l []api.Instr, cols []api.Col) answer {
	if len(l) > 1_200 {
		return answer{how: api.ErrFull}
	}
	if err := row.Schema(cols); err != nil {
		return answer{how: plain.Told(err)}
	}
	known := map[int]string{0: ":"}
	for i, in := range l {
		stack, reached := strings.CutPrefix(known[i], ":")
		if !reached {
			return answer{at: i, how: api.ErrNone}
		}
		if how := argOf(in, i, len(l), cols); how != api.OK {
			return answer{at: i, how: how}
		}
		next, how := leaves(stack, in, cols)
		if how != api.OK {
			return answer{at: i, how: how}
		}
		for _, to := range [][]int{nil, {0}, {0}, {0}, {in.Arg}, {0, in.Arg}, {0}, {0}}[in.What] {
			to += i + 1
			if known[to] != "" && known[to] != ":"+next {
				return answer{at: i, how: api.ErrShape}
			}
			known[to] = ":" + next
		}
	}
	end := known[len(l)]
	if len(end) != 2 {
		return answer{at: len(l), how: api.ErrShape}
	}
	most := 0
	for _, stack := range known {
		most = max(most, len(stack)-1)
	}
	return answer{of: strings.Index(" ibt", end[1:]), most: most}
}

// rights are instructions over the columns that are right, the letter of their type, and the most on the stack.
var rights = []struct {
	text, of string
	most     int
}{
	{"push 1", "i", 1},
	{"push -9223372036854775808", "i", 1},
	{"push true", "b", 1},
	{"push 'it''s'", "t", 1},
	{"load 0", "i", 1},
	{"load 1", "b", 1},
	{"load 2", "t", 1},
	{"load 3", "t", 1},
	{"load 4", "b", 1},
	{"load 5", "i", 1},
	{"load 1; do not", "b", 1},
	{"load 0; do neg", "i", 1},
	{"load 2; do len", "i", 1},
	{"load 2; do len; do neg", "i", 1},
	{"load 0; push 2; do +; push 3; do %", "i", 2},
	{"push 1; push 2; push 3; do -; do *", "i", 3},
	{"load 0; load 5; do <", "b", 2},
	{"load 1; load 4; do >=", "b", 2},
	{"load 2; load 3; do <>", "b", 2},
	{"load 2; keep; do =", "b", 2},
	{"push 1; keep; keep; keep; do +; do +; do +", "i", 4},
	{"push 'a'; drop; push 1", "i", 1},
	{"push 'a'; push 1; drop", "t", 2},
	{"push 'a'; push true; else 0", "t", 2},

	// A Jump goes on further on than the next one; to the end as well.
	{"jump 0; push 1", "i", 1},
	{"push 1; jump 0", "i", 1},
	{"push 1; jump 0; jump 0; jump 0", "i", 1},
	{"load 1; else 0; push 1", "i", 1},
	{"load 1; else 0; load 4; else 0; push 1", "i", 1},
	{"load 1; else 2; push 1; jump 1; push 2", "i", 1},
	{"load 1; else 2; push 'a'; jump 2; push 'b'; jump 0", "t", 1},
	{"load 1; else 2; push 1; jump 3; push 2; push 3; do +", "i", 2},
	{"load 1; else 4; push 1; push 2; do +; jump 1; push 2", "i", 2},
	{"push 1; push true; else 1; do neg", "i", 2},
	{"push 1; push true; else 2; drop; push 2", "i", 2},
	{"load 1; keep; else 2; drop; load 4", "b", 2},
	{"load 1; else 1; jump 1; jump 1; jump 0; push 1", "i", 1},
	{"load 1; else 1; jump 2; push 1; jump 1; push 2", "i", 1},
	{"load 1; else 5; load 4; else 1; jump 2; push 1; jump 1; push 2", "i", 1},
	{"load 1; else 4; load 4; else 2; push 1; jump 1; push 2", "i", 1},

	// What is known of a place comes from each that goes there.
	{"load 1; else 4; push 1; load 4; else 2; jump 1; push 2", "i", 2},
	{"push 'a'; load 1; else 4; load 1; else 2; load 1; else 0; do len", "i", 2},
	{"load 1; load 4; else 1; do not; else 2; push 1; jump 1; push 2", "i", 2},
}

// TestRight is of F1: instructions that are right, of which type, and the most on the stack.
func TestRight(t *testing.T) {
	for _, c := range rights {
		holdRight(t, read(c.text), strings.Index(" ibt", c.of), c.most)
	}
}

// wrongs are instructions over the columns, the number of the first that is wrong, and how.
var wrongs = []struct {
	text string
	at   int
	how  api.Errno
}{
	// Nothing at all has nothing at the end.
	{"", 0, api.ErrShape},

	{"push 1; jump 1; drop; jump 0", 2, api.ErrNone},
	{"jump 1; push 1", 1, api.ErrNone},
	{"jump 2; push 1; push 2; push 3", 1, api.ErrNone},
	{"load 1; else 2; push 1; jump 3; push 2; jump 1; push 3", 6, api.ErrNone},
	{"load 1; else 1; jump 2; jump 1; push 1; push 2", 4, api.ErrNone},

	{"what 0", 0, api.ErrRange},
	{"what 8", 0, api.ErrRange},
	{"what -1", 0, api.ErrRange},
	{"push 1; what 8", 1, api.ErrRange},
	{"load -1", 0, api.ErrRange},
	{"load 6", 0, api.ErrRange},
	{"push 1; load 6", 1, api.ErrRange},
	{"push true; push true; do 0", 2, api.ErrRange},
	{"push true; push true; do 1", 2, api.ErrRange},
	{"push true; push 1; push 1; do 16", 3, api.ErrRange},
	{"push true; push 1; do 17", 2, api.ErrRange},
	{"push true; do -1", 1, api.ErrRange},
	{"push 1; jump -1", 1, api.ErrRange},
	{"push 1; jump -2", 1, api.ErrRange},
	{"push 1; jump 1", 1, api.ErrRange},
	{"jump 2; push 1", 0, api.ErrRange},
	{"push 1; push true; else -1", 2, api.ErrRange},
	{"push 1; push true; else 1", 2, api.ErrRange},
	{"push true; else 2; push 1", 1, api.ErrRange},

	{"drop", 0, api.ErrState},
	{"keep", 0, api.ErrState},
	{"else 0", 0, api.ErrState},
	{"else 1; push 1", 0, api.ErrState},
	{"do not", 0, api.ErrState},
	{"do neg", 0, api.ErrState},
	{"do len", 0, api.ErrState},
	{"do =", 0, api.ErrState},
	{"do +", 0, api.ErrState},
	{"push 1; do +", 1, api.ErrState},
	{"push 'a'; do =", 1, api.ErrState},
	{"push 1; drop; drop", 2, api.ErrState},
	{"push 1; drop; keep", 2, api.ErrState},
	{"push 1; push 2; do +; do +", 3, api.ErrState},
	{"push true; else 0; else 0", 2, api.ErrState},
	{"push true; else 0; do not", 2, api.ErrState},

	{"push 1; do not", 1, api.ErrType},
	{"push 'a'; do not", 1, api.ErrType},
	{"push true; do neg", 1, api.ErrType},
	{"push 1; do len", 1, api.ErrType},
	{"push 1; push true; do +", 2, api.ErrType},
	{"push true; push 1; do +", 2, api.ErrType},
	{"push 'a'; push 'b'; do +", 2, api.ErrType},
	{"push true; push 1; do =", 2, api.ErrType},
	{"push 'a'; push 1; do <", 2, api.ErrType},
	{"push 1; push 'a'; do >=", 2, api.ErrType},
	{"push 1; else 0", 1, api.ErrType},
	{"push 'a'; else 0", 1, api.ErrType},
	{"push true; push 1; else 0", 2, api.ErrType},

	// What is known already of the place behind, of one further on, and of the end.
	{"load 1; else 1; push 1", 2, api.ErrShape},
	{"load 1; else 1; push 1; push 2", 2, api.ErrShape},
	{"push 1; load 1; else 1; drop", 3, api.ErrShape},
	{"push 1; load 1; else 1; push 'a'; drop", 3, api.ErrShape},
	{"push 1; load 1; else 1; keep; do +", 3, api.ErrShape},
	{"push 1; load 1; else 2; drop; push 'a'", 4, api.ErrShape},
	{"push 'a'; load 1; else 1; do len", 3, api.ErrShape},
	{"push 1; push 1; load 1; else 1; do =", 4, api.ErrShape},
	{"load 1; else 2; push 1; jump 1; push 'a'", 4, api.ErrShape},
	{"load 1; else 2; push 1; jump 1; jump 0", 4, api.ErrShape},
	{"load 1; else 3; push 1; push 2; jump 1; push 2", 5, api.ErrShape},
	{"load 1; else 4; push 1; load 4; else 2; jump 1; push 'a'", 6, api.ErrShape},
	{"load 1; load 1; else 1; else 0; push 1", 3, api.ErrShape},
	{"push 1; load 1; else 3; push 2; load 1; else 0", 5, api.ErrShape},
	{"push 1; load 1; else 4; push 2; load 1; else 1; drop", 5, api.ErrShape},
	// Two of other types in another order are something else.
	{"push 1; push 'a'; load 1; else 4; drop; drop; push 'a'; push 1", 7, api.ErrShape},

	{"push 1; drop", 2, api.ErrShape},
	{"load 1; else 2; push 1; jump 2; push 2; jump 0; drop", 7, api.ErrShape},
	{"push 1; push 2", 2, api.ErrShape},
	{"push 1; keep", 2, api.ErrShape},
	{"push true; else 0", 2, api.ErrShape},
	{"jump 0", 1, api.ErrShape},
	{"jump 1; jump 0", 1, api.ErrNone},
	{"push 1; push 2; push 3; do +", 4, api.ErrShape},
	{"push 1; load 1; else 1; jump 0; push 2", 5, api.ErrShape},

	// The first that is wrong, whatever comes behind it.
	{"drop; what 8; push 1", 0, api.ErrState},
	{"push 1; do not; jump 9; load 6", 1, api.ErrType},
	{"load 6; drop; drop", 0, api.ErrRange},
	{"load 0; do len; load 6", 1, api.ErrType},
}

// TestWrong is of F1: the first that is wrong, and how.
func TestWrong(t *testing.T) {
	for _, c := range wrongs {
		holdWrong(t, read(c.text), c.at, c.how)
	}
}

// TestMeant is of the means above: what they tell of the tables is what stands there, and each error of the chapter does.
func TestMeant(t *testing.T) {
	for _, c := range rights {
		if got := meant(read(c.text), columns()); got != (answer{of: strings.Index(" ibt", c.of), most: c.most}) {
			t.Errorf("of %q is meant %v", c.text, got)
		}
	}
	count := map[api.Errno]int{}
	for _, c := range wrongs {
		if got := meant(read(c.text), columns()); got != (answer{at: c.at, how: c.how}) {
			t.Errorf("of %q is meant %v", c.text, got)
		}
		count[c.how]++
	}
	for _, how := range []api.Errno{api.ErrNone, api.ErrRange, api.ErrState, api.ErrType, api.ErrShape} {
		if count[how] < 5 {
			t.Errorf("there are %d of %v", count[how], how)
		}
	}
}

// TestFirstOfTwo is of F1 and P3: of two faults of one instruction the one that the chapter lists first.
func TestFirstOfTwo(t *testing.T) {
	// Of the place behind the next instruction it is known that nothing lies there.
	const known = "push true; else 1; "
	full := strings.Repeat("push true; ", 64)
	for _, c := range []struct {
		text string
		at   int
		how  api.Errno
	}{
		// It is not reached, ahead of all.
		{"push 1; jump 1; what 0; jump 0", 2, api.ErrNone},
		{"push 1; jump 1; load 6; jump 0", 2, api.ErrNone},
		{"push 1; jump 1; do 0; jump 0", 2, api.ErrNone},
		{"push 1; jump 1; jump -1; jump 0", 2, api.ErrNone},
		{"push 1; jump 1; do +; jump 0", 2, api.ErrNone},
		{"push 1; jump 1; do not; jump 0", 2, api.ErrNone},
		{"push 1; jump 1; else 0; jump 0", 2, api.ErrNone},
		{"push 1; jump 1; push 1; jump 0", 2, api.ErrNone},
		{full + "jump 1; keep; jump 0", 65, api.ErrNone},

		// An Arg that is none, ahead of what lies there.
		{"do 0", 0, api.ErrRange},
		{"do 16", 0, api.ErrRange},
		{"do 17", 0, api.ErrRange},
		{"do -1", 0, api.ErrRange},
		{"else -1", 0, api.ErrRange},
		{"else 1", 0, api.ErrRange},
		{"push 1; else -1", 1, api.ErrRange},
		{"push 1; else 1", 1, api.ErrRange},
		{"push 1; push 2; do 0", 2, api.ErrRange},
		{full + "load 6", 64, api.ErrRange},
		{full + "load -1", 64, api.ErrRange},
		{full + "what 8", 64, api.ErrRange},
		{known + "load 6", 2, api.ErrRange},
		{known + "load 6; push 1", 2, api.ErrRange},
		{known + "jump 1", 2, api.ErrRange},
		{known + "what 8", 2, api.ErrRange},

		// Not as many, ahead of other types; both ahead of what is known.
		{"push 'a'; do +", 1, api.ErrState},
		{"push true; do -", 1, api.ErrState},
		{known + "drop", 2, api.ErrState},
		{known + "keep", 2, api.ErrState},
		{known + "do not", 2, api.ErrState},
		{"push 1; load 1; else 1; do +; push 1", 3, api.ErrState},
		{"push 1; load 1; else 1; do len", 3, api.ErrType},
		{"push 1; load 1; else 1; else 0", 3, api.ErrType},
		{"push 1; push 'a'; load 1; else 1; do =", 4, api.ErrType},
	} {
		holdWrong(t, read(c.text), c.at, c.how)
	}
	// One too many on the stack, ahead of what is known.
	for _, in := range []string{"keep", "load 0", "push 'a'"} {
		holdWrong(t, read(full+"else 1; "+in), 65, api.ErrShape)
		holdWrong(t, read(full+"else 2; push true; "+in), 66, api.ErrFull)
	}
}

// faulty are values that chapter 1's Check finds wrong.
var faulty = []struct {
	v   api.Val
	how api.Errno
}{
	{api.Val{}, api.ErrRange},
	{api.Val{N: 1}, api.ErrRange},
	{api.Val{S: "a"}, api.ErrRange},
	{api.Val{Type: 4}, api.ErrRange},
	{api.Val{Type: -1}, api.ErrRange},
	{api.Val{Type: 1<<32 + 1}, api.ErrRange},
	{api.Val{Type: math.MinInt}, api.ErrRange},
	{api.Val{Type: math.MaxInt, N: 1}, api.ErrRange},
	{truth(2), api.ErrRange},
	{truth(-1), api.ErrRange},
	{truth(math.MinInt), api.ErrRange},
	{words(long(41)), api.ErrFull},
	{words(long(100_000)), api.ErrFull},
	{words("\n"), api.ErrSyntax},
	{words("a\x00"), api.ErrSyntax},
	{words("\x1f"), api.ErrSyntax},
	{words("\x7f"), api.ErrSyntax},
	{words("\u00e9"), api.ErrSyntax},
	{words("\xff"), api.ErrSyntax},
	{api.Val{Type: api.Int, S: "1"}, api.ErrShape},
	{api.Val{Type: api.Bool, N: 1, S: "true"}, api.ErrShape},
	{api.Val{Type: api.Text, N: 1}, api.ErrShape},
	{api.Val{Type: api.Text, N: 1, S: "a"}, api.ErrShape},
}

// TestPush is of F1 and P3: a Push of what is no value, behind what is not reached, and ahead of one too many and of what is known.
func TestPush(t *testing.T) {
	for _, c := range faulty {
		push := api.Instr{What: api.Push, Val: c.v}
		holdWrong(t, []api.Instr{push}, 0, c.how)
		holdWrong(t, append(read("push 1"), push), 1, c.how)
		holdWrong(t, append(slices.Repeat(read("push 1"), 64), push), 64, c.how)
		holdWrong(t, append(read("push true; else 1"), push), 2, c.how)
		holdWrong(t, append(read("push 1; jump 1"), push, push), 2, api.ErrNone)
		holdWrong(t, append(read("push 1; drop; drop"), push), 2, api.ErrState)
	}
	for _, v := range []api.Val{number(math.MinInt), number(-1), number(0), number(math.MaxInt), truth(0), truth(1), words(""), words(" "), words("~"), words(long(40))} {
		holdRight(t, []api.Instr{{What: api.Push, Val: v}}, v.Type, 1)
	}
}

// numbers are such that are near and far off.
func numbers() []int {
	l := []int{
		math.MinInt, math.MinInt + 1, math.MinInt + 2, math.MinInt + 9, -1 << 32, -1<<32 + 2, -1 << 31, -256 + 9,
		256 + 2, 256 + 9, 1 << 16, 1 << 31, 1<<32 + 2, 1<<32 + 9, 1<<62 + 2, 1<<63 - 17, math.MaxInt - 2, math.MaxInt - 1, math.MaxInt,
	}
	for n := -40; n <= 40; n++ {
		l = append(l, n)
	}
	return l
}

// TestWhat is of F1: what is none, near and far off, whatever the stack.
func TestWhat(t *testing.T) {
	right := 0
	for _, n := range numbers() {
		if n >= api.Push && n <= api.Drop {
			right++
			continue
		}
		for _, in := range []api.Instr{{What: n}, {What: n, Arg: 2}, {What: n, Val: number(1)}, {What: n, Arg: -1, Val: words("a")}} {
			holdWrong(t, []api.Instr{in}, 0, api.ErrRange)
			holdWrong(t, append(read("push 1"), in), 1, api.ErrRange)
			holdWrong(t, append(read("push true"), in, in), 1, api.ErrRange)
		}
	}
	if right != 7 {
		t.Errorf("%d are right", right)
	}
}

// TestLoad is of F1: a column that is there, and one that is not, over each count of columns.
func TestLoad(t *testing.T) {
	for count := 1; count <= len(columns()); count++ {
		for _, n := range numbers() {
			want := answer{how: api.ErrRange}
			if n >= 0 && n < count {
				want = answer{of: columns()[n].Type, most: 1}
			}
			hold(t, []api.Instr{{What: api.Load, Arg: n}}, columns()[:count], want)
		}
	}
}

// laid are pushes of values of these types, as letters.
func laid(stack string) []api.Instr {
	vals := map[rune]api.Val{'i': number(7), 'b': truth(1), 't': words("x")}
	var l []api.Instr
	for _, of := range stack {
		l = append(l, api.Instr{What: api.Push, Val: vals[of]})
	}
	return l
}

// stacks are all of at most so many.
func stacks(n int) []string {
	l := []string{""}
	for i := 0; len(l[i]) < n; i++ {
		l = append(l, l[i]+"i", l[i]+"b", l[i]+"t")
	}
	return l
}

// TestDo is of F1: each number of an operation, near and far off, of each stack of up to four.
func TestDo(t *testing.T) {
	count := map[api.Errno]int{}
	for _, n := range numbers() {
		for _, stack := range stacks(4) {
			l := append(laid(stack), api.Instr{What: api.Do, Arg: n})
			want := meant(l, columns())
			hold(t, l, columns(), want)
			count[want.how]++
		}
	}
	// 6 comparisons are of 3 each, the other 8 of 1; what is right of some is right of them with any others below.
	right, deeper := 6*3+8, (6*3+5)*(3+9)+3*(3+9+27)
	if count[api.OK] != right || count[api.ErrShape] != deeper {
		t.Errorf("there are %v", count)
	}
	for _, n := range numbers() {
		if opOf(n).op == "" {
			holdWrong(t, append(laid("bii"), api.Instr{What: api.Do, Arg: n}), 3, api.ErrRange)
		}
	}
}

// TestRule is of F1: Do of operations and types is what chapter 5's Rule tells, and the operation is the one of chapter 7's Op.
func TestRule(t *testing.T) {
	for n := range kind.Ops() {
		op, err := code.Op(n)
		for _, types := range []string{"i", "b", "t", "ii", "ib", "it", "bi", "bb", "bt", "ti", "tb", "tt"} {
			l := append(laid(types), api.Instr{What: api.Do, Arg: n})
			if err != nil {
				holdWrong(t, l, len(types), api.ErrRange)
				continue
			}
			var args []int
			for _, of := range types {
				args = append(args, strings.IndexRune(" ibt", of))
			}
			of, bad := kind.Rule(op, args)
			switch plain.Told(bad) {
			case api.OK:
				holdRight(t, l, of, len(types))
			case api.ErrType:
				holdWrong(t, l, len(types), api.ErrType)
			}
		}
	}
}

// TestJump is of F1: a Jump and an Else with each Arg, near and far off, at each place of a list.
func TestJump(t *testing.T) {
	const length = 8
	for at := range length {
		for _, n := range numbers() {
			jump := slices.Repeat(read("jump 0"), length)
			jump[at].Arg = n
			want := answer{at: at, how: api.ErrRange}
			if n >= 0 && n <= length-1-at {
				// What it goes over is not reached.
				want = answer{at: at + 1, how: api.ErrNone}
			}
			if n == 0 {
				want = answer{at: length, how: api.ErrShape}
			}
			holdWrong(t, jump, want.at, want.how)

			other := append(read("push 1"), slices.Repeat(read("jump 0"), length)...)
			other[1+at] = api.Instr{What: api.Else, Arg: n}
			other = slices.Insert(other, 1+at, read("push true")...)
			want = answer{at: at + 2, how: api.ErrRange}
			if n >= 0 && n <= length-1-at {
				want = answer{of: api.Int, most: 2}
			}
			hold(t, other, columns(), want)
		}
	}
}

// TestGoesFar is of F1: over all there are, just to the end, and further on.
func TestGoesFar(t *testing.T) {
	for _, length := range []int{3, 4, 10, 100, 1_200} {
		l := append(laid("ib"), slices.Repeat(read("jump 0"), length-2)...)
		behind := length - 3
		for _, n := range []int{0, 1, 2, behind - 1, behind, behind + 1, behind + 2, length, 1_200, 1_201, math.MaxInt - length, math.MaxInt - 2, math.MaxInt} {
			want := answer{at: 2, how: api.ErrRange}
			if n >= 0 && n <= behind {
				want = answer{of: api.Int, most: 2}
			}
			l[2] = api.Instr{What: api.Else, Arg: n}
			hold(t, l, columns(), want)
		}
		l[2] = read("drop")[0]
		holdRight(t, l, api.Int, 2)
		if length > 3 {
			l[length-1].Arg = 1
			holdWrong(t, l, length-1, api.ErrRange)
		}
	}
}

// TestCode is of F1: just as many instructions as may be, and more, which are not looked at.
func TestCode(t *testing.T) {
	for _, c := range []struct {
		text string
		of   int
	}{
		{"load 1; do not", api.Bool},
		{"load 0; do neg", api.Int},
		{"load 2; jump 0", api.Text},
	} {
		l := read(c.text)
		for len(l) < 1_200 {
			l = append(l, l[1])
		}
		holdRight(t, l[:1_199], c.of, 1)
		holdRight(t, l, c.of, 1)
		holdWrong(t, append(l, l[1]), 0, api.ErrFull)
		holdWrong(t, slices.Repeat(l, 100), 0, api.ErrFull)
		l[1_199] = read("drop")[0]
		holdWrong(t, l, 1_200, api.ErrShape)
		l[1_199] = read("do len; do =; what 9")[c.of-1]
		holdWrong(t, append(l, l[1]), 0, api.ErrFull)
	}
	holdWrong(t, make([]api.Instr, 1_200), 0, api.ErrRange)
	holdWrong(t, make([]api.Instr, 1_201), 0, api.ErrFull)
	holdWrong(t, make([]api.Instr, 1_000_000), 0, api.ErrFull)
}

// TestStack is of F1: just as many on the stack as may be, and one more, by each that lays one on.
func TestStack(t *testing.T) {
	for n := 1; n <= 70; n++ {
		for _, in := range []string{"push 1", "load 0", "keep"} {
			for _, gone := range []string{"do +", "drop"} {
				l := slices.Concat(read("load 0"), slices.Repeat(read(in), n-1), slices.Repeat(read(gone), n-1))
				if n > 64 {
					holdWrong(t, l, 64, api.ErrFull)
					continue
				}
				holdRight(t, l, api.Int, n)
			}
		}
	}
	full := slices.Repeat(read("load 1"), 64)
	for _, c := range []struct {
		text string
		at   int
		how  api.Errno
	}{
		{"", 64, api.ErrShape},
		{"do not", 65, api.ErrShape},
		{"jump 0; else 0; keep", 67, api.ErrShape},
		{"jump 0; else 0; keep; keep", 67, api.ErrFull},
		{"do =; push 1; push 2", 66, api.ErrFull},
		{"drop; load 2; load 2", 66, api.ErrFull},
		{"else 1; keep; keep", 65, api.ErrShape},
		{"jump 2; push 1; push 1", 65, api.ErrNone},
	} {
		holdWrong(t, append(slices.Clone(full), read(c.text)...), c.at, c.how)
	}
	// What is dropped again was one too many all the same.
	holdWrong(t, slices.Concat(full, read("keep; drop"), slices.Repeat(read("drop"), 63)), 64, api.ErrFull)
	holdRight(t, slices.Concat(full, read("drop; keep"), slices.Repeat(read("do ="), 63)), api.Bool, 64)
}

// TestSchema is of F1 and P3: columns that are none are told at 0, ahead of whatever the instructions are, but for too many of them.
func TestSchema(t *testing.T) {
	i := api.Col{Name: "i", Type: api.Int}
	for _, c := range []struct {
		l   []api.Col
		how api.Errno
	}{
		{nil, api.ErrNone},
		{[]api.Col{}, api.ErrNone},
		{append(columns(), api.Col{Name: "x", Type: api.Int}), api.ErrFull},
		{make([]api.Col, 100_000), api.ErrFull},
		{[]api.Col{{}}, api.ErrSyntax},
		{[]api.Col{i, {Name: "I", Type: api.Int}}, api.ErrSyntax},
		{[]api.Col{{Name: "abcdefghi", Type: api.Int}}, api.ErrSyntax},
		{[]api.Col{i, {Name: "j", Type: 4}}, api.ErrRange},
		{[]api.Col{{Name: "j"}}, api.ErrRange},
		{[]api.Col{i, i}, api.ErrClash},
	} {
		for _, text := range []string{"", "push 1", "load 0", "load 9", "push 1; drop", "drop", "push 1; push 2", "what 0", "push 1; do not"} {
			hold(t, read(text), c.l, answer{how: c.how})
		}
		hold(t, slices.Repeat(read("keep"), 1_200), c.l, answer{how: c.how})
		hold(t, slices.Repeat(read("keep"), 1_201), c.l, answer{how: api.ErrFull})
	}
}

// TestMost is of F1: the most, wherever on the way it lies, also where one way of two alone leads there.
func TestMost(t *testing.T) {
	for _, c := range []struct {
		text string
		most int
	}{
		{"push 1; keep; drop; keep; keep; drop; drop", 3},
		{"push 1; push 2; push 3; do +; do +; push 1; do +", 3},
		{"load 1; else 4; push 1; keep; do +; jump 1; push 1", 2},
		{"load 1; else 2; push 1; jump 7; push 1; keep; keep; keep; do +; do +; do +", 4},
		{"load 1; else 8; push 1; keep; keep; keep; do +; do +; do +; jump 1; push 1", 4},
		{"push 1; load 1; load 4; load 1; else 0; else 0; else 0", 4},
		{"push 1; load 1; load 4; do =; else 0", 3},
		{"push 1; do neg; do neg", 1},
		{"jump 0; jump 0; push 1", 1},
	} {
		holdRight(t, read(c.text), api.Int, c.most)
	}
}

// junk are Args and Vals that mean something elsewhere, or nothing at all.
func junk(r *rand.Rand, in api.Instr) api.Instr {
	args := numbers()
	if in.What == api.Push || in.What == api.Keep || in.What == api.Drop {
		in.Arg = args[r.Intn(len(args))]
	}
	if in.What != api.Push {
		in.Val = faulty[r.Intn(len(faulty))].v
		if r.Intn(3) == 0 {
			in.Val = number(r.Intn(9))
		}
	}
	return in
}

// TestNotNeeded is of F1: Arg and Val that are not needed do not matter, of what is right and of what is wrong.
func TestNotNeeded(t *testing.T) {
	r := rand.New(rand.NewSource(1))
	var texts []string
	for _, c := range rights {
		texts = append(texts, c.text)
	}
	for _, c := range wrongs {
		texts = append(texts, c.text)
	}
	for _, text := range texts {
		for range 20 {
			l := read(text)
			want := meant(l, columns())
			for i, in := range l {
				l[i] = junk(r, in)
			}
			hold(t, l, columns(), want)
		}
	}
}

// choices are all lists of n of these.
func choices[T any](l []T, n int) [][]T {
	if n == 0 {
		return [][]T{nil}
	}
	var all [][]T
	for _, ahead := range choices(l, n-1) {
		for _, one := range l {
			all = append(all, append(slices.Clone(ahead), one))
		}
	}
	return all
}

// TestShort is of F1: all short lists of some instructions, right and wrong.
func TestShort(t *testing.T) {
	all := read("push 1; push 'a'; load 1; load 9; do +; do =; do not; do len; do 0; jump 0; jump 1; jump 2; else 0; else 1; else 2; keep; drop; what 8")
	few := read("push 1; load 1; do =; jump 1; jump 2; else 1; else 2; keep; drop")
	fewer := read("push 1; load 1; jump 1; else 1; else 2")
	count := map[api.Errno]int{}
	for _, c := range []struct {
		of   []api.Instr
		most int
	}{
		{all, 4}, {few, 5}, {fewer, 7},
	} {
		for n := range c.most + 1 {
			for _, l := range choices(c.of, n) {
				want := meant(l, columns())
				hold(t, l, columns(), want)
				count[want.how]++
			}
		}
	}
	for _, how := range []api.Errno{api.OK, api.ErrNone, api.ErrRange, api.ErrState, api.ErrType, api.ErrShape} {
		if count[how] < 100 {
			t.Errorf("there are %d of %v", count[how], how)
		}
	}
}

// part are instructions by chance that lay one of a type on the stack, of at most so many again.
func part(r *rand.Rand, of byte, depth int) []api.Instr {
	if depth == 0 || r.Intn(8) == 0 {
		if r.Intn(2) == 0 {
			return laid(string(of))
		}
		return []api.Instr{{What: api.Load, Arg: strings.IndexByte("ibttbi", of)}}
	}
	less := func(of byte) []api.Instr { return part(r, of, depth-1) }
	switch r.Intn(5) {
	case 0:
		return slices.Concat(less(of), less("ibt"[r.Intn(3)]), read("drop"))
	case 1:
		so, not := less(of), less(of)
		skip := []api.Instr{{What: api.Else, Arg: len(so) + 1}}
		return slices.Concat(less('b'), skip, so, []api.Instr{{What: api.Jump, Arg: len(not)}}, not)
	case 2:
		again := slices.Concat(read("drop"), less(of))
		return slices.Concat(less(of), less('b'), []api.Instr{{What: api.Else, Arg: len(again)}}, again)
	case 3:
		return slices.Concat(less(of), read("keep; drop; jump 0"))
	}
	switch of {
	case 'i':
		return [][]api.Instr{
			slices.Concat(less('i'), less('i'), read("do *")),
			slices.Concat(less('t'), read("do len")),
			slices.Concat(less('i'), read("keep; do -")),
		}[r.Intn(3)]
	case 'b':
		same := "ibt"[r.Intn(3)]
		return slices.Concat(less(same), less(same), read("do <="))
	}
	return less('t')
}

// bent is a list with some of it by chance another one, gone, or twice.
func bent(r *rand.Rand, l []api.Instr) []api.Instr {
	l = slices.Clone(l)
	for range r.Intn(3) {
		i := r.Intn(len(l))
		switch r.Intn(5) {
		case 0:
			l[i] = api.Instr{What: 1 + r.Intn(7), Arg: r.Intn(18), Val: number(1)}
		case 1:
			l[i].Arg += r.Intn(5) - 2
		case 2:
			l = slices.Insert(l, i, l[i])
		case 3:
			l = slices.Delete(l, i, i+1)
		case 4:
			j := r.Intn(len(l))
			l[i], l[j] = l[j], l[i]
		}
		if len(l) == 0 {
			break
		}
	}
	return l
}

// TestSome is of F1: lists by chance, right ones, and such that are no more.
func TestSome(t *testing.T) {
	r := rand.New(rand.NewSource(2))
	count := map[api.Errno]int{}
	for range 30_000 {
		of := r.Intn(3)
		l := part(r, "ibt"[of], r.Intn(7))
		want := meant(l, columns())
		if len(l) <= 1_200 && (want.how != api.OK || want.of != of+1) {
			t.Fatalf("%s is meant to be right: %v", brief(code.Print(l)), want)
		}
		hold(t, l, columns(), want)
		l = bent(r, l)
		cols := columns()[:1+r.Intn(6)]
		want = meant(l, cols)
		hold(t, l, cols, want)
		count[want.how]++
	}
	for _, how := range []api.Errno{api.OK, api.ErrNone, api.ErrRange, api.ErrState, api.ErrType, api.ErrShape} {
		if count[how] < 50 {
			t.Errorf("there are %d of %v: %v", count[how], how, count)
		}
	}
}

// runs does instructions of a row as chapter 7 tells, and gives what lies there at the end, and the most that lay there; it panics where a stack, or a type, is not as it must be.
func runs(l []api.Instr, row []api.Val) (stack []api.Val, most int, how api.Errno) {
	off := func() api.Val {
		v := stack[len(stack)-1]
		stack = stack[:len(stack)-1]
		return v
	}
	for at := 0; at < len(l); at++ {
		switch in := l[at]; in.What {
		case api.Push:
			stack = append(stack, in.Val)
		case api.Load:
			stack = append(stack, row[in.Arg])
		case api.Do:
			o := opOf(in.Arg)
			args := make([]api.Val, strings.Index(o.rules, ">"))
			for i := range args {
				args[len(args)-1-i] = off()
			}
			v, err := eval.Do(o.op, args)
			if plain.Told(err) == api.ErrOver {
				return nil, most, api.ErrOver
			}
			if err != nil {
				panic(err)
			}
			stack = append(stack, v)
		case api.Jump:
			at += in.Arg
		case api.Else:
			v := off()
			if v.Type != api.Bool {
				panic("no Bool")
			}
			if v.N == 0 {
				at += in.Arg
			}
		case api.Keep:
			v := off()
			stack = append(stack, v, v)
		case api.Drop:
			off()
		}
		most = max(most, len(stack))
	}
	return stack, most, api.OK
}

// TestRuns is of F1: what is right goes to its end, or goes over, whatever the row: with one of that type, and never more than that many.
func TestRuns(t *testing.T) {
	r := rand.New(rand.NewSource(3))
	ended, reached, ways := 0, 0, 0
	for range 20_000 {
		l := bent(r, part(r, "ibt"[r.Intn(3)], 1+r.Intn(5)))
		got := told(t, l, columns())
		if got.how != api.OK {
			continue
		}
		highest := 0
		for n := range 4 {
			vals := []api.Val{number(r.Intn(9) - 4), truth(n % 2), words("a"), words(""), truth(n / 2), number(r.Intn(9) - 4)}
			end, most, how := runs(l, vals)
			if most > got.most || how == api.OK && (len(end) != 1 || end[0].Type != got.of) {
				t.Errorf("%s: %v, at most %d, %v, was said %v", brief(code.Print(l)), end, most, how, got)
			}
			if how == api.OK {
				ended++
			}
			highest = max(highest, most)
		}
		ways++
		if highest == got.most {
			reached++
		}
	}
	// What is pushed may choose one way alone, on which not so many lie there.
	if ended < 10_000 || reached < ways/2 {
		t.Errorf("%d ended; the most was reached by %d of %d", ended, reached, ways)
	}
}

func col(name string) api.Expr { return api.Expr{Op: "col", Name: name} }

func is(v api.Val) api.Expr { return api.Expr{Op: "val", Val: v} }

func op(name string, args ...api.Expr) api.Expr { return api.Expr{Op: name, Args: args} }

// holdCompiled is of K1: what Compile gives is right, of the type of the expression.
func holdCompiled(t *testing.T, e api.Expr, l []api.Col) answer {
	t.Helper()
	want, fault := kind.Of(e, l)
	instrs, bad := code.Compile(e, l)
	if fault != (api.Fault{}) || bad != (api.Fault{}) {
		t.Fatalf("%s: Of %v, Compile %v", brief(e), fault, bad)
	}
	got := told(t, instrs, l)
	if got.how != api.OK || got.of != want {
		t.Errorf("of %s, compiled to %s: %v, want type %d", brief(e), brief(code.Print(instrs)), got, want)
	}
	if also := meant(instrs, l); got != also {
		t.Errorf("of %s, compiled to %s: %v, want %v", brief(e), brief(code.Print(instrs)), got, also)
	}
	return got
}

// TestCompiledTexts is of K1 once more: expressions as they are read.
func TestCompiledTexts(t *testing.T) {
	for _, text := range []string{
		"1", "true", "'it''s'", "i", "b", "t", "- i", "not b", "len(t)", "i + abcdefgh * 2 - 1", "1 - (2 - (3 - (4 - i)))",
		"b or neg", "b and neg", "b or neg and not b or 1 / 0 = 1", "if(b, 1, 2)", "if(b, t, 'x')", "if(b or neg, b and neg, not b)",
		"if(if(b, neg, b), 1, if(neg, 2, 3)) + if(i < 0, - i, i) * 2", "neg = (b = neg)", "t <> '' and len(t) > 1 or i % 2 = 0",
		"1 / 0", "if(t = '', if(b, 1, 2), if(neg, 3, if(b and neg, 4, 5)))",
	} {
		e, fault := tree.Parse(text)
		if fault != (api.Fault{}) {
			t.Fatalf("Parse(%q): %v", text, fault)
		}
		holdCompiled(t, e, columns())
	}
}

// to is an expression as deep as it may be, where each has the next one as its Arg of that place.
func to(o string, leaf api.Expr, place, count int) api.Expr {
	e := leaf
	for range api.MaxDepth - 1 {
		args := slices.Repeat([]api.Expr{leaf}, count)
		args[place] = e
		e = op(o, args...)
	}
	return e
}

// bush has n nodes of an op of two, which must be odd, and is not deep.
func bush(o string, leaf api.Expr, n int) api.Expr {
	if n == 1 {
		return leaf
	}
	left := (n - 1) / 2
	left -= 1 - left%2
	return op(o, bush(o, leaf, left), bush(o, leaf, n-1-left))
}

// TestCompiledGreat is of K1 once more: expressions as deep and as great as may be.
func TestCompiledGreat(t *testing.T) {
	leaves := map[int]api.Expr{api.Int: col("i"), api.Bool: is(truth(1)), api.Text: col("t")}
	for _, o := range kind.Ops() {
		count, _ := kind.Count(o)
		for _, of := range []int{api.Int, api.Bool, api.Text} {
			types := slices.Repeat([]int{of}, count)
			// Only what is again of the type of its Args can stand within itself.
			if own, err := kind.Rule(o, types); err != nil || own != of {
				continue
			}
			for place := range count {
				holdCompiled(t, to(o, leaves[of], place, count), columns())
			}
			if count == 2 {
				holdCompiled(t, bush(o, leaves[of], 199), columns())
			}
		}
	}
	deep := holdCompiled(t, to("+", col("i"), 1, 2), columns())
	if deep.most != api.MaxDepth {
		t.Errorf("%d lie there at most", deep.most)
	}
}

// some is an expression by chance, of that type and at most so deep.
func some(r *rand.Rand, depth, of int) api.Expr {
	less := func(of int) api.Expr { return some(r, depth-1, of) }
	if depth <= 1 || r.Intn(6) == 0 {
		if r.Intn(3) == 0 {
			return is([]api.Val{number(r.Intn(9)), truth(r.Intn(2)), words(long(r.Intn(41)))}[of-1])
		}
		return col([][]string{{"i", "abcdefgh"}, {"b", "neg"}, {"t", "t"}}[of-1][r.Intn(2)])
	}
	if r.Intn(4) == 0 {
		return op("if", less(api.Bool), less(of), less(of))
	}
	switch of {
	case api.Int:
		return []api.Expr{op("+", less(of), less(of)), op("%", less(of), less(of)), op("neg", less(of)), op("len", less(api.Text))}[r.Intn(4)]
	case api.Bool:
		same := 1 + r.Intn(3)
		return []api.Expr{op("or", less(of), less(of)), op("and", less(of), less(of)), op("not", less(of)), op("<", less(same), less(same))}[r.Intn(4)]
	}
	return less(of)
}

// TestCompiledSome is of K1 once more: expressions by chance, over columns in any order.
func TestCompiledSome(t *testing.T) {
	r := rand.New(rand.NewSource(4))
	right := 0
	for range 5_000 {
		e := some(r, 1+r.Intn(6), 1+r.Intn(3))
		if tree.Size(e) > api.MaxNodes {
			continue
		}
		l := columns()
		r.Shuffle(len(l), func(i, j int) { l[i], l[j] = l[j], l[i] })
		holdCompiled(t, e, l)
		right++
	}
	if right < 4_000 {
		t.Errorf("%d were right", right)
	}
}

// TestAny is of P1 and P3: any numbers as instructions and columns, of which nothing panics, and what is wrong is told.
func TestAny(t *testing.T) {
	r := rand.New(rand.NewSource(5))
	from := numbers()
	chance := func() int { return from[r.Intn(len(from))] }
	for range 50_000 {
		var l []api.Instr
		for range r.Intn(6) {
			in := api.Instr{What: chance(), Arg: chance(), Val: api.Val{Type: chance(), N: chance(), S: long(r.Intn(50))}}
			if r.Intn(4) > 0 {
				in.What = 1 + r.Intn(7)
			}
			if r.Intn(3) > 0 {
				in.Val = number(r.Intn(9))
			}
			l = append(l, in)
		}
		cols := columns()[:r.Intn(7)]
		if r.Intn(4) == 0 {
			cols = append(cols, api.Col{Name: long(r.Intn(10)), Type: chance()})
		}
		hold(t, l, cols, meant(l, cols))
	}
}

// TestListsStay is of P2 and P4: instructions and columns stay as they are, and what lies behind their length is neither read nor written.
func TestListsStay(t *testing.T) {
	r := rand.New(rand.NewSource(6))
	for range 2_000 {
		l := append(part(r, "ibt"[r.Intn(3)], r.Intn(5)), read("push 1; what 8; jump 0; drop")...)
		n := len(l) - 4
		if r.Intn(2) == 0 {
			n = r.Intn(len(l) + 1)
		}
		cols := columns()
		count := r.Intn(len(cols) + 1)
		want := meant(slices.Clone(l[:n]), slices.Clone(cols[:count]))
		was := slices.Clone(l)
		hold(t, l[:n], cols[:count], want)
		if !slices.Equal(l, was) || !slices.Equal(cols, columns()) {
			t.Errorf("%s, or its columns, were written into", brief(code.Print(was)))
		}
	}
}

// TestNothingKept is of P2: what is done afterwards with what was handed in changes no later answer.
func TestNothingKept(t *testing.T) {
	l, cols := read("load 1; else 2; load 0; jump 1; push 2"), columns()
	right := answer{of: api.Int, most: 1}
	hold(t, l, cols, right)
	l[4].Val = words("a")
	hold(t, l, cols, answer{at: 4, how: api.ErrShape})
	cols[0].Type = api.Text
	hold(t, l, cols, answer{of: api.Text, most: 1})
	cols[1].Type = api.Int
	hold(t, l, cols, answer{at: 1, how: api.ErrType})
	clear(l)
	hold(t, l, cols, answer{how: api.ErrRange})
	clear(cols)
	hold(t, l, cols, answer{how: api.ErrSyntax})
	hold(t, read("load 1; else 2; load 0; jump 1; push 2"), columns(), right)
}

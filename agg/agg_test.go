package agg_test

import (
	"math"
	"math/big"
	"slices"
	"strings"
	"testing"

	"sluicebook/agg"
	"sluicebook/api"
	"sluicebook/plain"
)

// TestNewRight is of A1: all aggs of all types that they may have, and as many as there may be.
func TestNewRight(t *testing.T) {
	holdNew(t, nil, nil, api.OK)
	holdNew(t, []api.Agg{}, nil, api.OK)
	holdNew(t, nil, []int{}, api.OK)
	holdNew(t, aggs("sum"), []int{api.Int}, api.OK)
	for _, typ := range []int{api.Int, api.Bool, api.Text} {
		holdNew(t, aggs("least"), []int{typ}, api.OK)
		holdNew(t, aggs("most"), []int{typ}, api.OK)
	}
	for _, typ := range append(far(), api.Bool, api.Text, 4) {
		holdNew(t, aggs("count"), []int{typ}, api.OK)
		holdNew(t, aggs("least count most"), []int{3, typ, 2}, api.OK)
	}
	holdNew(t, aggs("sum count least most sum"), []int{1, 9, 2, 3, 1}, api.OK)
	holdNew(t, aggs("sum count least most sum count"), []int{1, 9, 2, 3, 1, -9}, api.OK)
	// Of and Name are no matter of an Acc's, right or wrong.
	of := api.Expr{Op: "nor", Args: []api.Expr{{}}}
	holdNew(t, []api.Agg{{What: "count", Of: of, Name: "No Name"}, {What: "sum", Name: "sum"}, {What: "least", Of: of, Name: "sum"}}, []int{0, 1, 3}, api.OK)
}

// TestNewShape is of A1: there are not as many types as aggs.
func TestNewShape(t *testing.T) {
	for n := range 10 {
		for m := range 10 {
			l := aggs(strings.Repeat("count ", n))
			how := api.OK
			if n != m {
				how = api.ErrShape
			} else if n > 6 {
				how = api.ErrFull
			}
			holdNew(t, l, make([]int, m), how)
			if n > 0 && how != api.OK { // ahead of whatever is wrong with one of them
				l[0].What = "all"
				holdNew(t, l, make([]int, m), how)
			}
		}
	}
	holdNew(t, nil, []int{1}, api.ErrShape)
	holdNew(t, aggs("sum"), nil, api.ErrShape)
	holdNew(t, aggs("sum"), []int{1, 1}, api.ErrShape)
	holdNew(t, aggs("all"), []int{1, 1}, api.ErrShape)
	holdNew(t, aggs("least sum"), []int{7}, api.ErrShape)
	holdNew(t, aggs("sum"), []int{3, 3}, api.ErrShape)
	holdNew(t, aggs("count count count count count count count"), []int{1, 1, 1, 1, 1, 1}, api.ErrShape)
	holdNew(t, aggs("count count count count count count"), []int{1, 1, 1, 1, 1, 1, 1}, api.ErrShape)
}

// TestNewFull is of A1: there are more than MaxCols.
func TestNewFull(t *testing.T) {
	if api.MaxCols != 6 {
		t.Error("another number")
	}
	holdNew(t, aggs("sum sum sum sum sum sum sum"), []int{1, 1, 1, 1, 1, 1, 1}, api.ErrFull)
	holdNew(t, aggs("all sum sum sum sum sum sum"), []int{1, 1, 1, 1, 1, 1, 1}, api.ErrFull)
	holdNew(t, aggs("least sum sum sum sum sum sum"), []int{0, 1, 1, 1, 1, 1, 1}, api.ErrFull)
	holdNew(t, aggs("sum sum sum sum sum sum sum"), []int{3, 1, 1, 1, 1, 1, 1}, api.ErrFull)
	holdNew(t, make([]api.Agg, 1000), make([]int, 1000), api.ErrFull)
}

// TestNewOneByOne is of A1: What is none, a type is none, and of sum no Int; of two at once the first.
func TestNewOneByOne(t *testing.T) {
	for _, what := range []string{"", "c", "counts", "coun", "Count", "COUNT", "sum ", " sum", "su", "summ", "last", "leas", "leastmost", "mos", "min", "col", "*", "count\x00", "\xff"} {
		for _, typ := range []int{-1, 0, 1, 2, 3, 4} {
			holdNew(t, []api.Agg{{What: what}}, []int{typ}, api.ErrSyntax)
			holdNew(t, []api.Agg{{What: "most"}, {What: what}}, []int{3, typ}, api.ErrSyntax)
		}
	}
	for _, what := range []string{"sum", "least", "most"} {
		for _, typ := range []int{math.MinInt, -1 << 32, -3, -2, -1, 0, 4, 5, 1<<32 + 1, math.MaxInt} {
			holdNew(t, aggs(what), []int{typ}, api.ErrRange)
			holdNew(t, aggs("count "+what), []int{typ, typ}, api.ErrRange)
		}
	}
	holdNew(t, aggs("sum"), []int{api.Bool}, api.ErrType)
	holdNew(t, aggs("sum"), []int{api.Text}, api.ErrType)
	holdNew(t, aggs("count count count count count sum"), []int{0, 0, 0, 0, 0, api.Text}, api.ErrType)
}

// TestNewFirst is of A1 and P3: of several aggs that of the first that has a fault.
func TestNewFirst(t *testing.T) {
	type one struct {
		what string
		typ  int
		how  api.Errno
	}
	l := []one{
		{"count", 7, api.OK}, {"sum", 1, api.OK}, {"least", 2, api.OK}, {"most", 3, api.OK},
		{"all", 1, api.ErrSyntax}, {"all", 0, api.ErrSyntax}, {"sum", 0, api.ErrRange}, {"most", 4, api.ErrRange}, {"sum", 2, api.ErrType},
	}
	for _, a := range l {
		for _, b := range l {
			for _, c := range l {
				want := a.how
				if want == api.OK {
					want = b.how
				}
				if want == api.OK {
					want = c.how
				}
				holdNew(t, []api.Agg{{What: a.what}, {What: b.what}, {What: c.what}}, []int{a.typ, b.typ, c.typ}, want)
			}
		}
	}
}

// TestResult is of A1: what is told of rows.
func TestResult(t *testing.T) {
	for _, c := range []struct {
		whats string
		types []int
		rows  [][]api.Val
		want  []api.Val
	}{
		{"", nil, [][]api.Val{nil, {}, nil}, nil},
		{"count", []int{1}, numbers(5, 5, -5), []api.Val{number(3)}},
		{"sum", []int{1}, numbers(5, 5, -4), []api.Val{number(6)}},
		{"least", []int{1}, numbers(5, 5, -4), []api.Val{number(-4)}},
		{"most", []int{1}, numbers(5, 5, -4), []api.Val{number(5)}},
		{"least", []int{1}, numbers(0, -1, math.MinInt, 7), []api.Val{number(math.MinInt)}},
		{"most", []int{1}, numbers(0, -1, math.MaxInt, 7), []api.Val{number(math.MaxInt)}},
		{"least", []int{1}, numbers(math.MaxInt), []api.Val{number(math.MaxInt)}},
		{"most", []int{1}, numbers(math.MinInt), []api.Val{number(math.MinInt)}},
		{"least most", []int{1, 1}, [][]api.Val{{number(math.MinInt), number(math.MaxInt)}, {number(math.MaxInt), number(math.MinInt)}}, []api.Val{number(math.MinInt), number(math.MaxInt)}},
		{"least most", []int{2, 2}, [][]api.Val{{truth(true), truth(false)}}, []api.Val{truth(true), truth(false)}},
		{"least most", []int{2, 2}, [][]api.Val{{truth(true), truth(false)}, {truth(false), truth(true)}, {truth(true), truth(false)}}, []api.Val{truth(false), truth(true)}},
		{"least most", []int{3, 3}, [][]api.Val{{words("b"), words("b")}, {words("ab"), words("ba")}, {words("b"), words("")}}, []api.Val{words("ab"), words("ba")}},
		{"least most", []int{3, 3}, [][]api.Val{{words("a"), words("a")}, {words(""), words("")}}, []api.Val{words(""), words("a")}},
		{"least most", []int{3, 3}, [][]api.Val{{words("a"), words("Z")}, {words("Z"), words("a")}, {words("~"), words(" ")}}, []api.Val{words("Z"), words("a")}},
		{"least most", []int{3, 3}, [][]api.Val{{words("10"), words("9")}, {words("9"), words("10")}}, []api.Val{words("10"), words("9")}},
		{"most count least sum", []int{3, 0, 2, 1}, [][]api.Val{
			{words("it's"), {}, truth(true), number(1)},
			{words(strings.Repeat("i", 40)), {Type: 9, N: 9, S: "\n"}, truth(true), number(-3)},
		}, []api.Val{words("it's"), number(2), truth(true), number(-2)}},
		{"sum sum count count most most", []int{1, 1, 1, 1, 1, 1}, [][]api.Val{
			{number(1), number(10), {}, {}, number(2), number(-2)},
			{number(2), number(20), {}, {}, number(3), number(-3)},
			{number(3), number(30), {}, {}, number(1), number(-1)},
		}, []api.Val{number(6), number(60), number(3), number(3), number(3), number(-1)}},
	} {
		p := of(t, c.whats, c.types, c.rows)
		holdResult(t, p.acc, c.want, api.OK, len(c.rows))
		slices.Reverse(c.rows)
		p = of(t, c.whats, c.types, c.rows)
		holdResult(t, p.acc, c.want, api.OK, len(c.rows))
	}
}

// TestNoRows is of A1: count and sum of no rows, and that there are none of least and most.
func TestNoRows(t *testing.T) {
	for _, c := range []struct {
		whats string
		types []int
		want  []api.Val
		how   api.Errno
	}{
		{"", nil, nil, api.OK},
		{"count", []int{0}, []api.Val{number(0)}, api.OK},
		{"count", []int{3}, []api.Val{number(0)}, api.OK},
		{"sum", []int{1}, []api.Val{number(0)}, api.OK},
		{"sum count sum", []int{1, 2, 1}, []api.Val{number(0), number(0), number(0)}, api.OK},
		{"least", []int{1}, nil, api.ErrNone},
		{"least", []int{2}, nil, api.ErrNone},
		{"least", []int{3}, nil, api.ErrNone},
		{"most", []int{1}, nil, api.ErrNone},
		{"most", []int{2}, nil, api.ErrNone},
		{"most", []int{3}, nil, api.ErrNone},
		{"count sum most", []int{1, 1, 1}, nil, api.ErrNone},
		{"least count sum", []int{2, 1, 1}, nil, api.ErrNone},
	} {
		p := begun(t, aggs(c.whats), c.types)
		holdResult(t, p.acc, c.want, c.how, 0)
		p.hold(t)
	}
}

// TestGoneOn is of A1: Result may be asked again, and rows Added behind it, be it told or not.
func TestGoneOn(t *testing.T) {
	p := begun(t, aggs("least sum count most"), []int{3, 1, 1, 2})
	holdResult(t, p.acc, nil, api.ErrNone, 0)
	for _, c := range []struct {
		row  []api.Val
		want []api.Val
		how  api.Errno
	}{
		{[]api.Val{words("b"), number(math.MaxInt), {}, truth(false)}, []api.Val{words("b"), number(math.MaxInt), number(1), truth(false)}, api.OK},
		{[]api.Val{words("c"), number(1), {}, truth(false)}, nil, api.ErrOver},
		{[]api.Val{words("a"), number(math.MaxInt), {}, truth(true)}, nil, api.ErrOver},
		{[]api.Val{words("a"), number(-math.MaxInt), {}, truth(false)}, nil, api.ErrOver},
		{[]api.Val{words("d"), number(-1), {}, truth(false)}, []api.Val{words("a"), number(math.MaxInt), number(5), truth(true)}, api.OK},
		{[]api.Val{words(""), number(math.MinInt), {}, truth(false)}, []api.Val{words(""), number(-1), number(6), truth(true)}, api.OK},
		{[]api.Val{words(""), number(math.MinInt), {}, truth(false)}, nil, api.ErrOver},
		{[]api.Val{words(""), number(1), {}, truth(false)}, []api.Val{words(""), number(math.MinInt), number(8), truth(true)}, api.OK},
	} {
		p.add(t, c.row)
		holdResult(t, p.acc, c.want, c.how, len(p.model.rows))
		p.hold(t)
	}
}

// TestSumEdges is of A1: a sum is told just from -2^63 to 2^63 - 1, whichever way it came there.
func TestSumEdges(t *testing.T) {
	const top, bottom = math.MaxInt, math.MinInt
	for _, c := range []struct {
		rows []int
		want int
		how  api.Errno
	}{
		{[]int{top}, top, api.OK},
		{[]int{top, 0}, top, api.OK},
		{[]int{top - 1, 1}, top, api.OK},
		{[]int{top / 2, top/2 + 1}, top, api.OK},
		{[]int{top, 1}, 0, api.ErrOver},
		{[]int{top/2 + 1, top/2 + 1}, 0, api.ErrOver},
		{[]int{top, top}, 0, api.ErrOver},
		{[]int{top, 1, -1}, top, api.OK},
		{[]int{top, 1, -2}, top - 1, api.OK},
		{[]int{top, 2, -1}, 0, api.ErrOver},
		{[]int{bottom}, bottom, api.OK},
		{[]int{bottom, 0}, bottom, api.OK},
		{[]int{bottom + 1, -1}, bottom, api.OK},
		{[]int{bottom / 2, bottom / 2}, bottom, api.OK},
		{[]int{bottom, -1}, 0, api.ErrOver},
		{[]int{bottom, bottom}, 0, api.ErrOver},
		{[]int{bottom / 2, bottom/2 - 1}, 0, api.ErrOver},
		{[]int{bottom, -1, 1}, bottom, api.OK},
		{[]int{bottom, -1, 2}, bottom + 1, api.OK},
		{[]int{bottom, -2, 1}, 0, api.ErrOver},
		{[]int{bottom, top}, -1, api.OK},
		{[]int{bottom, top, 1}, 0, api.OK},
		{[]int{top, top, bottom, bottom}, -2, api.OK},
		{[]int{top, top, top, bottom}, 0, api.ErrOver},
		{[]int{top, top, 2, bottom}, 0, api.ErrOver},
		{[]int{top, top, 1, bottom}, top, api.OK},
		{[]int{bottom, bottom, top, 1}, bottom, api.OK},
		{[]int{bottom, bottom, top, 0}, 0, api.ErrOver},
		{[]int{bottom, bottom, top, top}, -2, api.OK},
		// Twice 2^63 and more: what a word of 64 bits has no more of.
		{[]int{top, top, 2}, 0, api.ErrOver},
		{[]int{top, top, 3}, 0, api.ErrOver},
		{[]int{bottom, bottom, -1}, 0, api.ErrOver},
		{[]int{bottom, bottom, bottom}, 0, api.ErrOver},
		{[]int{bottom, bottom, bottom, bottom}, 0, api.ErrOver},
		{[]int{top, top, top, top, 4}, 0, api.ErrOver},
	} {
		var want []api.Val
		if c.how == api.OK {
			want = []api.Val{number(c.want)}
		}
		rows := numbers(c.rows...)
		for range 2 {
			p := of(t, "sum", []int{1}, rows)
			holdResult(t, p.acc, want, c.how, len(rows))
			slices.Reverse(rows)
		}
	}
}

// running is a sum of one Int a row, beside what it is to be.
type running struct {
	acc *agg.Acc
	all *big.Int
}

func newRunning(t *testing.T) running {
	t.Helper()
	return running{begun(t, aggs("sum"), []int{1}).acc, new(big.Int)}
}

func (r running) add(t *testing.T, l ...int) {
	t.Helper()
	for _, n := range l {
		rows := r.acc.Count()
		if err := r.acc.Add([]api.Val{number(n)}); err != nil {
			t.Fatal(err)
		}
		r.all.Add(r.all, big.NewInt(int64(n)))
		r.hold(t, rows+1)
	}
}

func (r running) hold(t *testing.T, rows int) {
	t.Helper()
	if r.all.IsInt64() {
		holdResult(t, r.acc, []api.Val{number(int(r.all.Int64()))}, api.OK, rows)
	} else {
		holdResult(t, r.acc, nil, api.ErrOver, rows)
	}
}

// TestSumFar is of A1: sums that go far beyond, either way, and come back to each edge and one beyond it.
func TestSumFar(t *testing.T) {
	const times = 5000
	for _, to := range []int{math.MaxInt, math.MinInt} {
		r := newRunning(t)
		r.add(t, slices.Repeat([]int{to}, times)...)
		if r.all.BitLen() < 63+12 {
			t.Fatal("not far")
		}
		// Each of these is -1 together with one of those.
		r.add(t, slices.Repeat([]int{-1 - to}, times)...)
		holdResult(t, r.acc, []api.Val{number(-times)}, api.OK, 2*times)
		r.add(t, times, to)
		holdResult(t, r.acc, []api.Val{number(to)}, api.OK, 2*times+2)
		further := 1
		if to < 0 {
			further = -1
		}
		r.add(t, further)
		holdResult(t, r.acc, nil, api.ErrOver, 2*times+3)
		r.add(t, -further)
		holdResult(t, r.acc, []api.Val{number(to)}, api.OK, 2*times+4)
	}
}

// TestSumFours holds all fours of far numbers against their sum, at each step.
func TestSumFours(t *testing.T) {
	for _, a := range far() {
		for _, b := range far() {
			for _, c := range far() {
				for _, d := range far() {
					newRunning(t).add(t, a, b, c, d)
				}
			}
		}
	}
}

// TestResultFirst is of A1 and P3: what is wrong with one is told wherever it stands. (Two at once are always of one kind: ErrNone without rows, ErrOver with some.)
func TestResultFirst(t *testing.T) {
	for _, whats := range []string{"least sum count", "count sum least", "sum most count"} {
		p := begun(t, aggs(whats), []int{1, 1, 1})
		holdResult(t, p.acc, nil, api.ErrNone, 0)
		for _, n := range []int{math.MinInt, -1} {
			p.add(t, []api.Val{number(n), number(n), number(n)})
		}
		holdResult(t, p.acc, nil, api.ErrOver, 2)
		p.add(t, []api.Val{number(1), number(1), number(1)})
		p.hold(t)
		if _, err := p.acc.Result(); err != nil {
			t.Errorf("%s: %v", whats, err)
		}
	}
}

// wrongVals are values with an error, by what it is.
func wrongVals() []struct {
	v   api.Val
	how api.Errno
} {
	return []struct {
		v   api.Val
		how api.Errno
	}{
		{api.Val{}, api.ErrRange},
		{api.Val{Type: -1}, api.ErrRange},
		{api.Val{Type: 4, S: "x"}, api.ErrRange},
		{api.Val{Type: math.MinInt, N: 1}, api.ErrRange},
		{api.Val{Type: api.Bool, N: 2}, api.ErrRange},
		{api.Val{Type: api.Bool, N: -1, S: "x"}, api.ErrRange},
		{api.Val{Type: api.Text, S: strings.Repeat("x", 41)}, api.ErrFull},
		{api.Val{Type: api.Text, S: strings.Repeat("\n", 41), N: 1}, api.ErrFull},
		{api.Val{Type: api.Text, S: "\x1f"}, api.ErrSyntax},
		{api.Val{Type: api.Text, S: "a\x7f", N: 1}, api.ErrSyntax},
		{api.Val{Type: api.Text, S: "\xc3\xa9"}, api.ErrSyntax},
		{api.Val{Type: api.Text, N: 1}, api.ErrShape},
		{api.Val{Type: api.Text, N: -1, S: "x"}, api.ErrShape},
		{api.Val{Type: api.Int, S: "x"}, api.ErrShape},
		{api.Val{Type: api.Bool, N: 1, S: "x"}, api.ErrShape},
	}
}

// rightVals are values without an error, of each type.
func rightVals() map[int][]api.Val {
	return map[int][]api.Val{
		api.Int:  {number(0), number(math.MinInt), number(math.MaxInt), number(1)},
		api.Bool: {truth(false), truth(true)},
		api.Text: {words(""), words("a"), words(strings.Repeat("~", 40)), words(" ")},
	}
}

// TestAddShape is of A1: there are not as many values as aggs, whatever is wrong with them.
func TestAddShape(t *testing.T) {
	for n := range 7 {
		p := begun(t, aggs(strings.Repeat("sum ", n)), slices.Repeat([]int{1}, n))
		for m := range 10 {
			if n == m {
				continue
			}
			for _, v := range []api.Val{number(1), words("x"), {}, {Type: api.Bool, N: 7}} {
				if how := plain.Told(p.acc.Add(slices.Repeat([]api.Val{v}, m))); how != api.ErrShape {
					t.Errorf("%d of %d: %v", m, n, how)
				}
				p.hold(t)
			}
		}
		p.add(t, slices.Repeat([]api.Val{number(2)}, n))
		if how := p.tryAdd(t, slices.Repeat([]api.Val{number(2)}, n+1)); how != api.ErrShape {
			t.Errorf("one more than %d: %v", n, how)
		}
	}
	p := begun(t, aggs("count"), []int{0})
	if how := p.tryAdd(t, nil); how != api.ErrShape {
		t.Errorf("a row of nothing, of count: %v", how)
	}
}

// TestAddOne is of A1: chapter 1's Check, then ErrType; of count none counts.
func TestAddOne(t *testing.T) {
	for _, what := range []string{"count", "sum", "least", "most"} {
		for typ, right := range rightVals() {
			if what == "sum" && typ != api.Int {
				continue
			}
			p := begun(t, aggs(what), []int{typ})
			hold := func(v api.Val, want api.Errno) {
				t.Helper()
				if what == "count" {
					want = api.OK
				}
				if how := p.tryAdd(t, []api.Val{v}); how != want {
					t.Errorf("%s of %d: %v: got %v, want %v", what, typ, v, how, want)
				}
			}
			for range 2 { // behind others too
				for _, w := range wrongVals() {
					hold(w.v, w.how)
				}
				for other, l := range rightVals() {
					for _, v := range l {
						if other != typ {
							hold(v, api.ErrType)
						}
					}
				}
				for _, v := range right {
					hold(v, api.OK)
				}
			}
		}
	}
}

// TestAddFirst is of A1 and P3: of several values the first that has a fault is told, and none of the row is Added.
func TestAddFirst(t *testing.T) {
	type one struct {
		v   api.Val
		how api.Errno
	}
	bad := []one{{api.Val{Type: 9}, api.ErrRange}, {api.Val{Type: api.Text, S: strings.Repeat("x", 50)}, api.ErrFull}, {words("\t"), api.ErrSyntax}, {api.Val{Type: api.Int, S: "x"}, api.ErrShape}}
	// The values that would be told, if any of the row were Added.
	good := []api.Val{number(100), words(""), {}, number(-100), truth(false), truth(true)}
	unlike := []api.Val{words("x"), truth(true), {}, words("x"), number(1), number(0)}
	p := begun(t, aggs("sum least count least least most"), []int{1, 3, 5, 1, 2, 2})
	p.add(t, []api.Val{number(1), words("m"), {}, number(1), truth(true), truth(false)})
	for i := range good {
		for k := i; k < len(good); k++ {
			for _, a := range append(bad, one{unlike[i], api.ErrType}) {
				for _, b := range append(bad, one{unlike[k], api.ErrType}) {
					if i == 2 || k == 2 {
						continue
					}
					row := slices.Clone(good)
					row[k] = b.v
					row[i] = a.v
					if how := p.tryAdd(t, row); how != a.how {
						t.Errorf("%v: got %v, want %v", row, how, a.how)
					}
				}
			}
		}
	}
	holdResult(t, p.acc, []api.Val{number(1), words("m"), number(1), number(1), truth(true), truth(false)}, api.OK, 1)
	p.add(t, good)
	holdResult(t, p.acc, []api.Val{number(101), words(""), number(2), number(-100), truth(false), truth(true)}, api.OK, 2)
}

// TestAddFirstRow is of A1: a first row that has an error is not Added either.
func TestAddFirstRow(t *testing.T) {
	p := begun(t, aggs("most sum least count sum"), []int{3, 1, 2, 0, 1})
	for _, v := range []api.Val{{}, words("x"), truth(true), {Type: api.Int, S: "x"}} {
		if how := p.tryAdd(t, []api.Val{words("z"), number(5), truth(false), number(1), v}); how == api.OK {
			t.Errorf("%v: it was Added", v)
		}
		holdResult(t, p.acc, nil, api.ErrNone, 0)
	}
}

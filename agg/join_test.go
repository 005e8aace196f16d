package agg_test

import (
	"math"
	"math/rand"
	"slices"
	"testing"

	"sluicebook/api"
	"sluicebook/plain"
)

// mixedWhats and mixedTypes have each aggregate, and each type.
const mixedWhats = "sum least count most least most"

func mixedTypes() []int { return []int{1, 3, 0, 1, 2, 3} }

func mixedRows() [][]api.Val {
	return [][]api.Val{
		{number(math.MaxInt), words("k"), {}, number(3), truth(true), words("it's")},
		{number(7), words("kk"), {Type: 77, S: "\x00"}, number(-3), truth(true), words("")},
		{number(math.MaxInt), words("j"), {}, number(math.MinInt), truth(false), words("it")},
		{number(math.MinInt), words("~"), {}, number(5), truth(true), words("~~")},
		{number(-9), words("j"), words("x"), number(4), truth(true), words("~")},
		{number(math.MinInt), words("z"), {}, number(5), truth(false), words(" ")},
	}
}

// mixedResult is what is told of all of them.
func mixedResult() []api.Val {
	return []api.Val{number(-4), words("j"), number(6), number(5), truth(false), words("~~")}
}

// joined Joins what is to have no error.
func joined(t *testing.T, p, o pair) {
	t.Helper()
	if how := p.join(t, o); how != api.OK {
		t.Fatalf("Join: %v", how)
	}
}

// TestJoin is of A1: as if all rows of the other one had been Added, either way round; the other one is as it was, and each goes on by itself.
func TestJoin(t *testing.T) {
	rows := mixedRows()
	for cut := range len(rows) + 1 {
		for turn := range 2 {
			l := []pair{of(t, mixedWhats, mixedTypes(), rows[:cut]), of(t, mixedWhats, mixedTypes(), rows[cut:])}
			a, b := l[turn], l[1-turn]
			joined(t, a, b)
			holdResult(t, a.acc, mixedResult(), api.OK, 6)
			a.add(t, rows[0])
			b.hold(t)
			b.add(t, []api.Val{number(1), words(""), {}, number(math.MaxInt), truth(false), words("~~~")})
			a.hold(t)
			joined(t, a, b)
			joined(t, b, a)
		}
	}
}

// TestJoinOfNothing is of A1: one that has no aggs has rows all the same.
func TestJoinOfNothing(t *testing.T) {
	a, b := of(t, "", nil, [][]api.Val{nil, nil}), of(t, "", nil, [][]api.Val{nil})
	joined(t, a, b)
	holdResult(t, a.acc, nil, api.OK, 3)
	joined(t, b, b)
	holdResult(t, b.acc, nil, api.OK, 2)
}

// TestJoinNoRows is of A1: with one of no rows, onto one of no rows, and of two such.
func TestJoinNoRows(t *testing.T) {
	none := func() pair { return begun(t, aggs(mixedWhats), mixedTypes()) }
	all := func() pair { return of(t, mixedWhats, mixedTypes(), mixedRows()) }
	a, b := all(), none()
	joined(t, a, b)
	holdResult(t, a.acc, mixedResult(), api.OK, 6)
	holdResult(t, b.acc, nil, api.ErrNone, 0)
	a, b = none(), all()
	joined(t, a, b)
	holdResult(t, a.acc, mixedResult(), api.OK, 6)
	holdResult(t, b.acc, mixedResult(), api.OK, 6)
	a, b = none(), none()
	joined(t, a, b)
	joined(t, a, a)
	holdResult(t, a.acc, nil, api.ErrNone, 0)
	a.add(t, mixedRows()[0])
	holdResult(t, b.acc, nil, api.ErrNone, 0)
	sum := begun(t, aggs("sum count"), []int{1, 1})
	joined(t, sum, begun(t, aggs("sum count"), []int{1, 2}))
	holdResult(t, sum.acc, []api.Val{number(0), number(0)}, api.OK, 0)
}

// TestJoinItself is of A1: all rows of itself are there once more.
func TestJoinItself(t *testing.T) {
	p := of(t, mixedWhats, mixedTypes(), mixedRows())
	for range 6 {
		joined(t, p, p)
	}
	holdResult(t, p.acc, []api.Val{number(-4 * 64), words("j"), number(6 * 64), number(5), truth(false), words("~~")}, api.OK, 6*64)
	p.add(t, mixedRows()[0])
}

// join is that of two running sums.
func (r running) join(t *testing.T, o running, rows int) {
	t.Helper()
	if err := r.acc.Join(o.acc); err != nil {
		t.Fatal(err)
	}
	r.all.Add(r.all, o.all)
	r.hold(t, rows)
}

// TestJoinFar is of A1: sums that go far in one, and come back in the other.
func TestJoinFar(t *testing.T) {
	const times = 1000
	for _, n := range []int{math.MaxInt, math.MinInt, math.MaxInt / 2, 1 << 32, -1 << 40, 1} {
		for _, left := range far() {
			a, b := newRunning(t), newRunning(t)
			a.add(t, slices.Repeat([]int{n}, times)...)
			b.add(t, slices.Repeat([]int{-1 - n}, times)...)
			a.join(t, b, 2*times)
			b.hold(t, times)
			a.add(t, times, left)
			holdResult(t, a.acc, []api.Val{number(left)}, api.OK, 2*times+2)
			b.join(t, a, 3*times+2)
		}
	}
}

// atMost is how many rows 2^n are, as far as a number tells it.
func atMost(n int) int {
	if n < 63 {
		return 1 << n
	}
	return math.MaxInt
}

// TestJoinBeyondWords is of A1: a sum may be as far as it will, also where Joins of itself double it over and over, and comes back.
func TestJoinBeyondWords(t *testing.T) {
	for _, n := range far() {
		a, b := newRunning(t), newRunning(t)
		a.add(t, n)
		b.add(t, -1-n)
		for i := range 300 {
			a.join(t, a, atMost(i+1))
			b.join(t, b, atMost(i+1))
		}
		// Both together are 2^300 times -1.
		c := newRunning(t)
		c.add(t, 1)
		for i := range 300 {
			c.join(t, c, atMost(i+1))
		}
		a.join(t, b, math.MaxInt)
		a.join(t, c, math.MaxInt)
		holdResult(t, a.acc, []api.Val{number(0)}, api.OK, math.MaxInt)
	}
}

// TestJoinBeyondCounting: where there are more rows than a number can tell, there are some: least and most are told.
func TestJoinBeyondCounting(t *testing.T) {
	p := begun(t, aggs("count least most"), []int{0, 3, 2})
	row := []api.Val{{}, words("a"), truth(false)}
	if err := p.acc.Add(row); err != nil {
		t.Fatal(err)
	}
	for i := range 200 {
		if err := p.acc.Join(p.acc); err != nil {
			t.Fatal(err)
		}
		holdResult(t, p.acc, []api.Val{number(atMost(i + 1)), words("a"), truth(false)}, api.OK, atMost(i+1))
	}
	if err := p.acc.Add(row); err != nil {
		t.Fatal(err)
	}
	holdResult(t, p.acc, []api.Val{number(math.MaxInt), words("a"), truth(false)}, api.OK, math.MaxInt)
}

// TestJoinShape is of A1: aggs or types are not the same; then both are as they were.
func TestJoinShape(t *testing.T) {
	type shape struct {
		whats string
		types []int
		row   []api.Val
	}
	l := []shape{
		{"", nil, nil},
		{"count", []int{1}, []api.Val{{}}},
		{"sum", []int{1}, []api.Val{number(2)}},
		{"least", []int{1}, []api.Val{number(2)}},
		{"most", []int{1}, []api.Val{number(2)}},
		{"least", []int{2}, []api.Val{truth(true)}},
		{"most", []int{2}, []api.Val{truth(true)}},
		{"least", []int{3}, []api.Val{words("x")}},
		{"most", []int{3}, []api.Val{words("x")}},
		{"count count", []int{1, 1}, []api.Val{{}, {}}},
		{"sum sum", []int{1, 1}, []api.Val{number(1), number(2)}},
		{"sum count", []int{1, 1}, []api.Val{number(1), {}}},
		{"count sum", []int{1, 1}, []api.Val{{}, number(1)}},
		{"sum least", []int{1, 1}, []api.Val{number(1), number(1)}},
		{"sum least", []int{1, 3}, []api.Val{number(1), words("x")}},
		{"least sum", []int{1, 1}, []api.Val{number(1), number(1)}},
		{"least least", []int{1, 3}, []api.Val{number(1), words("x")}},
		{"least least", []int{3, 1}, []api.Val{words("x"), number(1)}},
		{"sum count least most sum count", []int{1, 1, 1, 1, 1, 1}, []api.Val{number(1), {}, number(1), number(1), number(1), {}}},
		{"sum count least most sum sum", []int{1, 1, 1, 1, 1, 1}, []api.Val{number(1), {}, number(1), number(1), number(1), number(1)}},
		{"sum count least most sum most", []int{1, 1, 1, 1, 1, 1}, []api.Val{number(1), {}, number(1), number(1), number(1), number(1)}},
		{"sum count least most sum most", []int{1, 1, 1, 1, 1, 2}, []api.Val{number(1), {}, number(1), number(1), number(1), truth(true)}},
	}
	for i, c := range l {
		for k, d := range l {
			for n := range 4 { // with rows and without
				a := of(t, c.whats, c.types, slices.Repeat([][]api.Val{c.row}, n%2*2))
				b := of(t, d.whats, d.types, slices.Repeat([][]api.Val{d.row}, n/2))
				want := api.ErrShape
				if i == k {
					want = api.OK
				}
				if how := a.join(t, b); how != want {
					t.Errorf("%q %v with %q %v: got %v, want %v", c.whats, c.types, d.whats, d.types, how, want)
				}
				if want != api.OK {
					a.add(t, c.row)
					b.add(t, d.row)
				}
			}
		}
	}
}

// TestJoinTypesOfCount is of A1: of count none counts, nor do Of and Name.
func TestJoinTypesOfCount(t *testing.T) {
	for _, x := range []int{math.MinInt, -1, 0, 1, 2, 3, 4, math.MaxInt} {
		for _, y := range []int{math.MinInt, -1, 0, 1, 2, 3, 4, math.MaxInt} {
			a := of(t, "count most count", []int{x, 2, y}, [][]api.Val{{{}, truth(true), {}}})
			b := of(t, "count most count", []int{y, 2, y}, [][]api.Val{{{}, truth(false), {}}, {{}, truth(true), words("x")}})
			joined(t, a, b)
			holdResult(t, a.acc, []api.Val{number(3), truth(true), number(3)}, api.OK, 3)
			a = begun(t, []api.Agg{{What: "count", Name: "a"}, {What: "sum", Name: "b", Of: api.Expr{Op: "col", Name: "x"}}}, []int{x, 1})
			b = begun(t, []api.Agg{{What: "count", Name: "c", Of: api.Expr{Op: "nor"}}, {What: "sum"}}, []int{y, 1})
			joined(t, a, b)
		}
	}
}

// TestJoinNil is of P1: what is no Acc is none of the same aggs.
func TestJoinNil(t *testing.T) {
	for _, p := range []pair{begun(t, nil, nil), of(t, mixedWhats, mixedTypes(), mixedRows())} {
		if how := plain.Told(p.acc.Join(nil)); how != api.ErrShape {
			t.Errorf("Join(nil): %v", how)
		}
		p.hold(t)
	}
}

// TestCount is of A1: how many rows, behind Add and Join, with an error and without.
func TestCount(t *testing.T) {
	a, b := begun(t, aggs("least"), []int{3}), begun(t, aggs("least"), []int{3})
	hold := func(x, y int) {
		t.Helper()
		if a.acc.Count() != x || b.acc.Count() != y {
			t.Errorf("got %d, %d; want %d, %d", a.acc.Count(), b.acc.Count(), x, y)
		}
	}
	hold(0, 0)
	a.add(t, []api.Val{words("x")})
	hold(1, 0)
	a.add(t, []api.Val{words("x")})
	b.add(t, []api.Val{words("x")})
	hold(2, 1)
	a.tryAdd(t, []api.Val{number(1)})
	a.tryAdd(t, nil)
	b.tryAdd(t, []api.Val{words("x"), words("x")})
	hold(2, 1)
	joined(t, a, b)
	hold(3, 1)
	joined(t, b, a)
	hold(3, 4)
	joined(t, a, a)
	hold(6, 4)
	a.join(t, begun(t, aggs("most"), []int{3}))
	hold(6, 4)
}

// orders are all ways in which so many may stand.
func orders(n int) [][]int {
	if n == 0 {
		return [][]int{nil}
	}
	var l [][]int
	for _, o := range orders(n - 1) {
		for at := range n {
			l = append(l, slices.Insert(slices.Clone(o), at, n-1))
		}
	}
	return l
}

// TestAnyOrder is of A1: rows in whatever order, in one or in two that are Joined either way, come to the same.
func TestAnyOrder(t *testing.T) {
	rows := mixedRows()
	if len(orders(len(rows))) != 720 {
		t.Fatal("not all orders")
	}
	for _, o := range orders(len(rows)) {
		var l [][]api.Val
		for _, i := range o {
			l = append(l, rows[i])
		}
		for cut := range len(l) + 1 {
			a, b := of(t, mixedWhats, mixedTypes(), l[:cut]), of(t, mixedWhats, mixedTypes(), l[cut:])
			if o[0] < o[1] {
				a, b = b, a
			}
			joined(t, a, b)
			holdResult(t, a.acc, mixedResult(), api.OK, len(rows))
		}
	}
}

// chance gives a value of a type, or sometimes another one, right or wrong.
func chance(r *rand.Rand, typ int) api.Val {
	switch r.Intn(40) {
	case 0:
		l := wrongVals()
		return l[r.Intn(len(l))].v
	case 1:
		typ = 1 + r.Intn(3)
	}
	switch typ {
	case api.Int:
		if r.Intn(3) > 0 {
			return number(far()[r.Intn(len(far()))])
		}
		return number(int(r.Uint64()))
	case api.Bool:
		return truth(r.Intn(2) == 0)
	}
	s := make([]byte, r.Intn(4))
	for i := range s {
		s[i] = " Aa~"[r.Intn(4)]
	}
	return words(string(s))
}

// TestPlay: many calls by chance on some that may be Joined, or may not, against all of their rows.
func TestPlay(t *testing.T) {
	for seed := range int64(60) {
		r := rand.New(rand.NewSource(seed))
		shapes := []pair{
			begun(t, aggs(mixedWhats), mixedTypes()),
			begun(t, aggs("sum sum count"), []int{1, 1, 9}),
			begun(t, aggs("most"), []int{r.Intn(3) + 1}),
		}
		var l []pair
		for range 6 {
			s := shapes[r.Intn(len(shapes))].model
			var whats []api.Agg
			for _, w := range s.whats {
				whats = append(whats, api.Agg{What: w})
			}
			l = append(l, begun(t, whats, s.types))
		}
		for range 200 {
			p := l[r.Intn(len(l))]
			if o := l[r.Intn(len(l))]; r.Intn(6) == 0 && len(p.model.rows)+len(o.model.rows) < 500 {
				p.join(t, o)
				continue
			}
			var row []api.Val
			for _, typ := range p.model.types {
				row = append(row, chance(r, typ))
			}
			p.tryAdd(t, row)
		}
	}
}

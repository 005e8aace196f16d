package batch_test

import (
	"fmt"
	"math"
	"math/rand"
	"slices"
	"strconv"
	"strings"
	"testing"

	"sluicebook/api"
	"sluicebook/batch"
	"sluicebook/plain"
	"sluicebook/query"
)

// TestAllShort is of B1 and B2: all short lists of rows, of queries in which each of their marks may come.
func TestAllShort(t *testing.T) {
	var some [][]api.Val
	for _, at := range []int{-1, 0, 1, 2, 3, 5} {
		for _, k := range []int{0, 1, math.MaxInt} {
			some = append(some, []api.Val{number(at), number(k)})
		}
	}
	some = some[2:] // of those below 0 one is enough
	l := heads(t, "at int,k int")
	for _, text := range []string{
		"select 1 / k as p from s where at <> 1",
		"select k as p from s where at / k < 2",
		"select sum(k) as n, count as c from s group by k window 2",
		"select sum(k) as n from s where at / k < 2 group by at window 3 slide 2",
		"select sum(at * k) as n from s where at <> 1 group by k window 3 slide 1",
		"select count as n, most(k) as m, least(- k) as o from s where k > 0 group by at, k window 4 slide 2",
	} {
		q := asked(t, text)
		for n := range 4 {
			each(some, n, func(rows [][]api.Val) { holdModel(t, q, l, rows) })
		}
	}
}

// each goes over all lists of n of some.
func each(some [][]api.Val, n int, do func(rows [][]api.Val)) {
	if n == 0 {
		do(nil)
		return
	}
	each(some, n-1, func(rows [][]api.Val) {
		for _, r := range some {
			do(append(slices.Clone(rows), r))
		}
	})
}

// chooser makes queries and rows by chance.
type chooser struct {
	*rand.Rand
	l []api.Col
}

func oneOf[T any](c chooser, l ...T) T { return l[c.Intn(len(l))] }

// cols lays the schema: `at`, and up to five others of any types, in any order.
func (c *chooser) cols() {
	c.l = []api.Col{{Name: "at", Type: api.Int}}
	for _, name := range []string{"a", "b", "c", "d", "e"}[:c.Intn(6)] {
		c.l = append(c.l, api.Col{Name: name, Type: 1 + c.Intn(3)})
	}
	c.Shuffle(len(c.l), func(i, j int) { c.l[i], c.l[j] = c.l[j], c.l[i] })
}

// expr writes an expression of a type.
func (c chooser) expr(typ, deep int) string {
	if deep == 0 || c.Intn(4) == 0 {
		return c.leaf(typ)
	}
	sub := func(typ int) string { return c.expr(typ, deep-1) }
	if c.Intn(5) == 0 {
		return "if(" + sub(api.Bool) + ", " + sub(typ) + ", " + sub(typ) + ")"
	}
	switch typ {
	case api.Int:
		if c.Intn(5) == 0 {
			return oneOf(c, "(- "+sub(api.Int)+")", "len("+sub(api.Text)+")")
		}
		return "(" + sub(api.Int) + oneOf(c, " + ", " - ", " * ", " / ", " % ") + sub(api.Int) + ")"
	case api.Bool:
		of := 1 + c.Intn(3)
		return "(" + oneOf(c, "not "+sub(api.Bool), sub(api.Bool)+oneOf(c, " and ", " or ")+sub(api.Bool), sub(of)+oneOf(c, " = ", " <> ", " < ", " <= ", " > ", " >= ")+sub(of)) + ")"
	}
	return c.leaf(typ)
}

func (c chooser) leaf(typ int) string {
	for _, i := range c.Perm(len(c.l)) {
		if c.l[i].Type == typ && c.Intn(4) > 0 {
			return c.l[i].Name
		}
	}
	switch typ {
	case api.Int:
		return strconv.Itoa(oneOf(c, 0, 1, 2, 7, math.MaxInt))
	case api.Bool:
		return oneOf(c, "true", "false")
	}
	return oneOf(c, "''", "'a'", "'it''s'")
}

// query asks something of the columns, which is right.
func (c chooser) query() string {
	where := " from s"
	if c.Intn(2) == 0 {
		where += " where " + c.expr(api.Bool, 2)
	}
	var items []string
	if c.Intn(4) == 0 {
		for i := range 1 + c.Intn(3) {
			items = append(items, c.expr(1+c.Intn(3), 2)+" as "+"pqr"[i:i+1])
		}
		return "select " + strings.Join(items, ", ") + where
	}
	var group []string
	for _, i := range c.Perm(len(c.l))[:1+c.Intn(min(3, len(c.l)))] {
		group = append(group, c.l[i].Name)
	}
	for i := range 1 + c.Intn(3) {
		item := oneOf(c, "count", "sum("+c.expr(api.Int, 1)+")", oneOf(c, "least(", "most(")+c.expr(1+c.Intn(3), 1)+")")
		items = append(items, item+" as "+"pqr"[i:i+1])
	}
	slide := 1 + c.Intn(5)
	size := slide + c.Intn(9*slide+1)
	return "select " + strings.Join(items, ", ") + where + " group by " + strings.Join(group, ", ") + fmt.Sprint(" window ", size, " slide ", slide)
}

// rows come mostly in the order of their time.
func (c chooser) rows(n, step int) [][]api.Val {
	var rows [][]api.Val
	time := c.Intn(3)
	for range n {
		time += c.Intn(step + 1)
		var r []api.Val
		for _, col := range c.l {
			r = append(r, c.val(col, time))
		}
		rows = append(rows, r)
	}
	return rows
}

func (c chooser) val(col api.Col, time int) api.Val {
	switch {
	case col.Name == "at" && c.Intn(12) == 0:
		return number(oneOf(c, -1, 0, time-1, math.MinInt, math.MaxInt, 1_000_001))
	case col.Name == "at":
		return number(time)
	case col.Type == api.Int:
		return number(oneOf(c, 0, 1, -1, 2, 7, math.MaxInt, math.MinInt, c.Intn(60)))
	case col.Type == api.Bool:
		return api.Val{Type: api.Bool, N: c.Intn(2)}
	}
	return words(oneOf(c, "", "a", "b", "it's", strconv.Itoa(c.Intn(60))))
}

// TestByChance is of B1 and B2: queries and rows by chance, of which some tell each of the errors.
func TestByChance(t *testing.T) {
	c := chooser{Rand: rand.New(rand.NewSource(14))}
	met := map[api.Errno]int{}
	for i := range 3_000 {
		c.cols()
		text := c.query()
		q, fault := query.Parse(text)
		if fault.How == api.ErrFull {
			continue
		}
		if fault.How != api.OK {
			t.Fatalf("%q: %v", text, fault)
		}
		n := c.Intn(30)
		if i%50 == 0 {
			n = 300
		}
		for _, o := range holdModel(t, q, c.l, c.rows(n, oneOf(c, 0, 1, 1, 2, 6))) {
			met[o.Err]++
		}
	}
	for _, how := range []api.Errno{api.OK, api.ErrRange, api.ErrState, api.ErrOver, api.ErrFull} {
		if met[how] < 100 {
			t.Errorf("%v came %d times", how, met[how])
		}
	}
}

// TestFarTimes is of B2: time goes on by leaps, up to MaxTime.
func TestFarTimes(t *testing.T) {
	l := heads(t, "at int,k int")
	for _, window := range []string{"1", "1000", "1000 slide 100", "7 slide 3", "999 slide 998"} {
		var rows [][]api.Val
		for at := 999_000; at <= 1_000_002; at += 167 {
			rows = append(rows, []api.Val{number(at), number(at % 2)}, []api.Val{number(at), number(1)})
		}
		rows = append(rows, keyed(1_000_000, 0, 2)...)
		holdModel(t, asked(t, counted+window), l, rows)
	}
	hold(t, counted+"1", "at int,k int", "0,1 1000000,1", "0:1,1 1000000:1,1")
}

// wild gives a value of whatever is in reach.
func (c chooser) wild() api.Val {
	return api.Val{
		Type: oneOf(c, 1, 2, 3, 1, 2, 3, 0, 4, -1, math.MinInt, math.MaxInt),
		N:    oneOf(c, 0, 0, 0, 1, 2, -1, math.MinInt, math.MaxInt, 1_000_000),
		S:    oneOf(c, "", "", "", "a", "\n", "\x00\xff", strings.Repeat("z", 40), strings.Repeat("z", 41)),
	}
}

// wildExpr gives an expression of whatever is in reach.
func (c chooser) wildExpr(deep int) api.Expr {
	e := api.Expr{Op: oneOf(c, "", "val", "col", "col", "+", "/", "=", "and", "or", "not", "neg", "len", "if", "count", "nor"), At: c.Intn(9) - 4}
	if c.Intn(3) > 0 && e.Op == "col" {
		e.Name = oneOf(c, "at", "a", "b", "z", "select", "\x00")
	}
	if e.Op == "val" || c.Intn(9) == 0 {
		e.Val = c.wild()
	}
	for range c.Intn(4) {
		if deep > 0 {
			e.Args = append(e.Args, c.wildExpr(deep-1))
		}
	}
	return e
}

// broken changes something of a query.
func (c chooser) broken(q api.Query) api.Query {
	n := oneOf(c, 0, 1, -1, 2, 10, 1000, 1001, math.MinInt, math.MaxInt)
	name := oneOf(c, "", "p", "n", "at", "a", "count", "abcdefghi", "\xff")
	switch c.Intn(9) {
	case 0:
		q.Size = n
	case 1:
		q.Slide = n
	case 2:
		q.Where = c.wildExpr(2)
	case 3:
		q.Cols = append(q.Cols, c.wildExpr(2))
	case 4:
		q.Names = append(q.Names, name)
	case 5:
		q.Group = append(q.Group, name)
	case 6:
		q.Aggs = append(q.Aggs, api.Agg{What: oneOf(c, "count", "sum", "least", "most", "", "all"), Of: c.wildExpr(1), Name: name})
	case 7:
		q.Names, q.Group = nil, nil
	case 8:
		q.Cols, q.Aggs = nil, nil
	}
	return q
}

// TestAnyInput is of P1: no call panics, whatever it is handed, and with an error there are no Outs.
func TestAnyInput(t *testing.T) {
	c := chooser{Rand: rand.New(rand.NewSource(15))}
	var right int
	for range 20_000 {
		c.cols()
		q, _ := query.Parse(c.query())
		rows := c.rows(c.Intn(4), 3)
		l := slices.Clone(c.l)
		for range c.Intn(3) {
			q = c.broken(q)
		}
		if c.Intn(4) == 0 {
			l[c.Intn(len(l))] = api.Col{Name: oneOf(c, "at", "a", "", "A", "\x00"), Type: c.Intn(6) - 1}
		}
		if len(rows) > 0 && c.Intn(3) == 0 {
			i := c.Intn(len(rows))
			rows[i] = append(rows[i], c.wild())[c.Intn(2):]
			if len(rows[i]) > 0 {
				rows[i][0] = c.wild()
			}
		}
		holdModel(t, q, l, rows)
		if got, err := batch.Run(q, l, rows); err == nil {
			right++
		} else if len(got) > 0 {
			t.Errorf("%s: %v beside %v", show(q, l, rows), got, err)
		}
	}
	if right < 1_000 || right > 19_000 {
		t.Errorf("%d were right", right)
	}
}

// TestNothingAtAll is of P1: the least that can be handed in.
func TestNothingAtAll(t *testing.T) {
	for _, rows := range [][][]api.Val{nil, {}, {nil}, {{}}, make([][]api.Val, 300), make([][]api.Val, 301)} {
		holdError(t, api.Query{}, nil, rows, api.ErrNone)
		holdError(t, api.Query{Size: 1, Slide: 1}, []api.Col{{Name: "at", Type: 1}}, rows, api.ErrNone)
	}
}

// TestEndless is of P1: an expression that stands in itself is too deep, and one that is nothing is not looked into.
func TestEndless(t *testing.T) {
	e := api.Expr{Op: "not", Args: make([]api.Expr, 1)}
	e.Args[0] = e
	l := heads(t, "at int,k int")
	rows := table(t, "1,1")
	q := asked(t, "select k as p from s")
	q.Where = e
	holdEnds(t, q, l, rows, api.ErrFull)
	q.Where.Op = ""
	holdEnds(t, q, l, rows, api.OK)
	q.Cols[0] = e
	holdEnds(t, q, l, rows, api.ErrFull)
	q = asked(t, "select count as n, least(k) as m from s group by k window 5")
	q.Aggs[0].Of.Args = e.Args
	holdEnds(t, q, l, rows, api.OK)
	q.Aggs[1].Of = e
	holdEnds(t, q, l, rows, api.ErrFull)
}

// holdEnds holds the error alone, as what goes on without an end cannot be shown.
func holdEnds(t *testing.T, q api.Query, l []api.Col, rows [][]api.Val, want api.Errno) {
	t.Helper()
	if got, err := batch.Run(q, l, rows); plain.Told(err) != want || (len(got) > 0) != (want == api.OK) {
		t.Errorf("%v, %v, want %v", got, err, want)
	}
}

// TestGreatest is of P1 and P5: as many rows, columns, nodes and windows as may be.
func TestGreatest(t *testing.T) {
	l := heads(t, "at int,a int,b int,c int,d int,e int")
	sum := "a" + strings.Repeat(" + b", 28)
	q := asked(t, "select sum(a) as p, sum("+sum+") as q, most(a) as r from s where a = a and b = b and c = c or d = d or e = e group by a, b, c window 1000 slide 100")
	var rows [][]api.Val
	for i := range 300 {
		rows = append(rows, []api.Val{number(i * 20), number(i % 40), number(math.MaxInt / 30), number(0), number(i), number(-i)})
	}
	if got := holdModel(t, q, l, rows); len(got) < 1_000 {
		t.Errorf("%d Outs", len(got))
	}
}

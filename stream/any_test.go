package stream_test

import (
	"fmt"
	"math"
	"math/rand"
	"slices"
	"strconv"
	"strings"
	"testing"

	"sluicebook/api"
	"sluicebook/batch"
	"sluicebook/query"
)

// holdBatch holds that what comes of all Pushes, and of Close, is what chapter 14's Run tells of the rows at once.
func holdBatch(t *testing.T, q api.Query, l []api.Col, rows [][]api.Val) []api.Out {
	t.Helper()
	want, err := batch.Run(q, l, rows)
	got := newPair(t, q, l).all(t, rows)
	if !slices.EqualFunc(got, want, sameOuts) || err != nil {
		t.Errorf("%s\n%.1000s\ngot  %v\nRun: %v, %v", show(q, l), fmt.Sprint(rows), got, want, err)
	}
	return got
}

// TestAllShort is of S1: all short lists of rows, with Close at each place, of queries in which each of their marks may come.
func TestAllShort(t *testing.T) {
	var some [][]api.Val
	for _, at := range []int{-1, 0, 2, 3, 5} {
		for _, k := range []int{0, 1, math.MaxInt} {
			some = append(some, []api.Val{number(at), number(k)})
		}
	}
	some = some[2:] // of those below 0 one is enough
	l := heads(t, "at int,k int")
	for _, text := range []string{
		"select 1 / k as p from s where at <> 2",
		"select sum(k) as n, count as c from s group by k window 2",
		"select sum(k) as n from s where at / k < 2 group by at window 3 slide 2",
		"select sum(at * k) as n from s where at <> 3 group by k window 3 slide 1",
		"select most(k) as m, least(- k) as o from s where k > 0 group by at, k window 4 slide 2",
	} {
		q := asked(t, text)
		for n := range 4 {
			each(some, n, func(rows [][]api.Val) {
				holdBatch(t, q, l, rows)
				p := newPair(t, q, l)
				p.all(t, rows[:n/2])
				p.all(t, rows[n/2:])
			})
		}
	}
}

// each goes over all lists of n of some.
func each(some [][]api.Val, n int, do func(rows [][]api.Val)) {
	if n == 0 {
		do(nil)
		return
	}
	each(some, n-1, func(rows [][]api.Val) {
		for _, r := range some {
			do(append(slices.Clone(rows), r))
		}
	})
}

// chooser makes queries and rows by chance.
type chooser struct {
	*rand.Rand
	l []api.Col
}

func oneOf[T any](c chooser, l ...T) T { return l[c.Intn(len(l))] }

// cols lays the schema: `at`, and up to five others of any types, in any order.
func (c *chooser) cols() {
	c.l = []api.Col{{Name: "at", Type: api.Int}}
	for _, name := range []string{"a", "b", "c", "d", "e"}[:c.Intn(6)] {
		c.l = append(c.l, api.Col{Name: name, Type: 1 + c.Intn(3)})
	}
	c.Shuffle(len(c.l), func(i, j int) { c.l[i], c.l[j] = c.l[j], c.l[i] })
}

// expr writes an expression of a type.
func (c chooser) expr(typ, deep int) string {
	if deep == 0 || c.Intn(4) == 0 {
		return c.leaf(typ)
	}
	sub := func(typ int) string { return c.expr(typ, deep-1) }
	if c.Intn(5) == 0 {
		return "if(" + sub(api.Bool) + ", " + sub(typ) + ", " + sub(typ) + ")"
	}
	switch typ {
	case api.Int:
		if c.Intn(5) == 0 {
			return oneOf(c, "(- "+sub(api.Int)+")", "len("+sub(api.Text)+")")
		}
		return "(" + sub(api.Int) + oneOf(c, " + ", " - ", " * ", " / ", " % ") + sub(api.Int) + ")"
	case api.Bool:
		of := 1 + c.Intn(3)
		return "(" + oneOf(c, "not "+sub(api.Bool), sub(api.Bool)+oneOf(c, " and ", " or ")+sub(api.Bool), sub(of)+oneOf(c, " = ", " <> ", " < ", " <= ", " > ", " >= ")+sub(of)) + ")"
	}
	return c.leaf(typ)
}

func (c chooser) leaf(typ int) string {
	for _, i := range c.Perm(len(c.l)) {
		if c.l[i].Type == typ && c.Intn(4) > 0 {
			return c.l[i].Name
		}
	}
	switch typ {
	case api.Int:
		return strconv.Itoa(oneOf(c, 0, 1, 2, 7, math.MaxInt))
	case api.Bool:
		return oneOf(c, "true", "false")
	}
	return oneOf(c, "''", "'a'", "'it''s'")
}

// query asks something of the columns, which is right.
func (c chooser) query() string {
	where := " from s"
	if c.Intn(2) == 0 {
		where += " where " + c.expr(api.Bool, 2)
	}
	var items []string
	if c.Intn(4) == 0 {
		for i := range 1 + c.Intn(3) {
			items = append(items, c.expr(1+c.Intn(3), 2)+" as "+"pqr"[i:i+1])
		}
		return "select " + strings.Join(items, ", ") + where
	}
	var group []string
	for _, i := range c.Perm(len(c.l))[:1+c.Intn(min(3, len(c.l)))] {
		group = append(group, c.l[i].Name)
	}
	for i := range 1 + c.Intn(3) {
		item := oneOf(c, "count", "sum("+c.expr(api.Int, 1)+")", oneOf(c, "least(", "most(")+c.expr(1+c.Intn(3), 1)+")")
		items = append(items, item+" as "+"pqr"[i:i+1])
	}
	slide := 1 + c.Intn(5)
	size := slide + c.Intn(9*slide+1)
	return "select " + strings.Join(items, ", ") + where + " group by " + strings.Join(group, ", ") + fmt.Sprint(" window ", size, " slide ", slide)
}

// asked reads a query by chance, which is not too long.
func (c chooser) asked(t *testing.T) api.Query {
	t.Helper()
	for {
		text := c.query()
		q, fault := query.Parse(text)
		if fault.How == api.OK {
			return q
		}
		if fault.How != api.ErrFull {
			t.Fatalf("%q: %v", text, fault)
		}
	}
}

// rows come mostly in the order of their time.
func (c chooser) rows(n, step int) [][]api.Val {
	var rows [][]api.Val
	time := c.Intn(3)
	for range n {
		time += c.Intn(step + 1)
		var r []api.Val
		for _, col := range c.l {
			r = append(r, c.val(col, time))
		}
		rows = append(rows, r)
	}
	return rows
}

func (c chooser) val(col api.Col, time int) api.Val {
	switch {
	case col.Name == "at" && c.Intn(12) == 0:
		return number(oneOf(c, -1, 0, time-1, math.MinInt, math.MaxInt, 1_000_001))
	case col.Name == "at":
		return number(time)
	case col.Type == api.Int:
		return number(oneOf(c, 0, 1, -1, 2, 7, math.MaxInt, math.MinInt, c.Intn(60)))
	case col.Type == api.Bool:
		return api.Val{Type: api.Bool, N: c.Intn(2)}
	}
	return words(oneOf(c, "", "a", "b", "it's", strconv.Itoa(c.Intn(60))))
}

// TestByChance is of S1: queries and rows by chance, up to MaxRows, are told as chapter 14 does.
func TestByChance(t *testing.T) {
	c := chooser{Rand: rand.New(rand.NewSource(15))}
	met := map[api.Errno]int{}
	for i := range 3_000 {
		c.cols()
		n := c.Intn(30)
		if i%20 == 0 {
			n = 300
		}
		for _, o := range holdBatch(t, c.asked(t), c.l, c.rows(n, oneOf(c, 0, 1, 1, 2, 6))) {
			met[o.Err]++
		}
	}
	for _, how := range []api.Errno{api.OK, api.ErrRange, api.ErrState, api.ErrOver, api.ErrFull} {
		if met[how] < 100 {
			t.Errorf("%v came %d times", how, met[how])
		}
	}
}

// wild gives a value of whatever is in reach.
func (c chooser) wild() api.Val {
	return api.Val{
		Type: oneOf(c, 1, 2, 3, 1, 2, 3, 0, 4, -1, math.MinInt, math.MaxInt),
		N:    oneOf(c, 0, 0, 0, 1, 2, -1, math.MinInt, math.MaxInt, 1_000_000),
		S:    oneOf(c, "", "", "", "a", "\n", "\x00\xff", strings.Repeat("z", 40), strings.Repeat("z", 41)),
	}
}

// spoiled is a row like that one, which is perhaps none of the columns.
func (c chooser) spoiled(r []api.Val) []api.Val {
	r = slices.Clone(r)
	switch c.Intn(5) {
	case 0:
		return nil
	case 1:
		return r[1:]
	case 2:
		return append(r, c.wild())
	}
	r[c.Intn(len(r))] = c.wild()
	return r
}

// TestAnyCalls is of S1 and P1: Pushes of rows, right and wrong, and Closes, by chance, on one Stream for long.
func TestAnyCalls(t *testing.T) {
	c := chooser{Rand: rand.New(rand.NewSource(152))}
	var wrong, far int
	for range 300 {
		c.cols()
		p := newPair(t, c.asked(t), c.l)
		rarely := oneOf(c, 5, 20, 1_000)
		for _, r := range c.rows(c.Intn(600), oneOf(c, 0, 1, 1, 2, 6)) {
			if c.Intn(rarely) == 0 {
				p.close(t)
			}
			if c.Intn(8) == 0 {
				before := p.s.Rows()
				p.push(t, c.spoiled(r))
				wrong += before + 1 - p.s.Rows()
			}
			p.push(t, r)
			far = max(far, p.s.Rows())
		}
		p.close(t)
		p.close(t)
	}
	if wrong < 1_000 || far < 400 {
		t.Errorf("%d were wrong, and at most %d rows came", wrong, far)
	}
}

// TestTwoStreams is of S1: Streams of the same query do not touch each other, whatever is Pushed to which in turn.
func TestTwoStreams(t *testing.T) {
	c := chooser{Rand: rand.New(rand.NewSource(153))}
	for range 200 {
		c.cols()
		q := c.asked(t)
		pairs := []*pair{newPair(t, q, c.l), newPair(t, q, c.l), newPair(t, q, c.l)}
		lists := [][][]api.Val{c.rows(40, 1), c.rows(40, 6), c.rows(40, 2)}
		for range 100 {
			i := c.Intn(3)
			switch {
			case c.Intn(30) == 0:
				pairs[i].close(t)
			case len(lists[i]) > 0:
				pairs[i].push(t, lists[i][0])
				lists[i] = lists[i][1:]
			}
			for _, p := range pairs {
				p.hold(t)
			}
		}
		for _, p := range pairs {
			p.close(t)
		}
	}
}

// wildExpr gives an expression of whatever is in reach.
func (c chooser) wildExpr(deep int) api.Expr {
	e := api.Expr{Op: oneOf(c, "", "val", "col", "col", "+", "/", "=", "and", "or", "not", "neg", "len", "if", "count", "nor"), At: c.Intn(9) - 4}
	if c.Intn(3) > 0 && e.Op == "col" {
		e.Name = oneOf(c, "at", "a", "b", "z", "select", "\x00")
	}
	if e.Op == "val" || c.Intn(9) == 0 {
		e.Val = c.wild()
	}
	for range c.Intn(4) {
		if deep > 0 {
			e.Args = append(e.Args, c.wildExpr(deep-1))
		}
	}
	return e
}

// broken changes something of a query.
func (c chooser) broken(q api.Query) api.Query {
	n := oneOf(c, 0, 1, -1, 2, 10, 1000, 1001, math.MinInt, math.MaxInt)
	name := oneOf(c, "", "p", "n", "at", "a", "count", "abcdefghi", "\xff")
	switch c.Intn(9) {
	case 0:
		q.Size = n
	case 1:
		q.Slide = n
	case 2:
		q.Where = c.wildExpr(2)
	case 3:
		q.Cols = append(q.Cols, c.wildExpr(2))
	case 4:
		q.Names = append(q.Names, name)
	case 5:
		q.Group = append(q.Group, name)
	case 6:
		q.Aggs = append(q.Aggs, api.Agg{What: oneOf(c, "count", "sum", "least", "most", "", "all"), Of: c.wildExpr(1), Name: name})
	case 7:
		q.Names, q.Group = nil, nil
	case 8:
		q.Cols, q.Aggs = nil, nil
	}
	return q
}

// TestGreatest is of P1 and P5: as many columns, nodes, groups and windows as may be, for long.
func TestGreatest(t *testing.T) {
	l := heads(t, "at int,a int,b int,c int,d int,e int")
	sum := "a" + strings.Repeat(" + b", 28)
	q := asked(t, "select sum(a) as p, sum("+sum+") as q, most(a) as r from s where a = a and b = b and c = c or d = d or e = e group by a, b, c window 1000 slide 100")
	p := newPair(t, q, l)
	told := 0
	for i := range 500 {
		told += len(p.push(t, []api.Val{number(i * 20), number(i % 45), number(math.MaxInt / 30), number(0), number(i), number(-i)}))
	}
	if told < 1_000 {
		t.Errorf("%d Outs", told)
	}
}

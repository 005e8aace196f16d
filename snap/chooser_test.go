package snap_test

import (
	"fmt"
	"math"
	"math/rand"
	"slices"
	"strconv"
	"strings"
	"testing"

	"sluicebook/api"
	"sluicebook/query"
)

// each goes over all lists of n of some.
func each(some [][]api.Val, n int, do func(rows [][]api.Val)) {
	if n == 0 {
		do(nil)
		return
	}
	each(some, n-1, func(rows [][]api.Val) {
		for _, r := range some {
			do(append(slices.Clone(rows), r))
		}
	})
}

// chooser makes queries and rows by chance.
type chooser struct {
	*rand.Rand
	l []api.Col
}

func oneOf[T any](c chooser, l ...T) T { return l[c.Intn(len(l))] }

// cols lays the schema: `at`, and up to five others of any types, in any order.
func (c *chooser) cols() {
	c.l = []api.Col{{Name: "at", Type: api.Int}}
	for _, name := range []string{"a", "b", "c", "d", "e"}[:c.Intn(6)] {
		c.l = append(c.l, api.Col{Name: name, Type: 1 + c.Intn(3)})
	}
	c.Shuffle(len(c.l), func(i, j int) { c.l[i], c.l[j] = c.l[j], c.l[i] })
}

// expr writes an expression of a type.
func (c chooser) expr(typ, deep int) string {
	if deep == 0 || c.Intn(4) == 0 {
		return c.leaf(typ)
	}
	sub := func(typ int) string { return c.expr(typ, deep-1) }
	if c.Intn(5) == 0 {
		return "if(" + sub(api.Bool) + ", " + sub(typ) + ", " + sub(typ) + ")"
	}
	switch typ {
	case api.Int:
		if c.Intn(5) == 0 {
			return oneOf(c, "(- "+sub(api.Int)+")", "len("+sub(api.Text)+")")
		}
		return "(" + sub(api.Int) + oneOf(c, " + ", " - ", " * ", " / ", " % ") + sub(api.Int) + ")"
	case api.Bool:
		of := 1 + c.Intn(3)
		return "(" + oneOf(c, "not "+sub(api.Bool), sub(api.Bool)+oneOf(c, " and ", " or ")+sub(api.Bool), sub(of)+oneOf(c, " = ", " <> ", " < ", " <= ", " > ", " >= ")+sub(of)) + ")"
	}
	return c.leaf(typ)
}

func (c chooser) leaf(typ int) string {
	for _, i := range c.Perm(len(c.l)) {
		if c.l[i].Type == typ && c.Intn(4) > 0 {
			return c.l[i].Name
		}
	}
	switch typ {
	case api.Int:
		return strconv.Itoa(oneOf(c, 0, 1, 2, 7, math.MaxInt))
	case api.Bool:
		return oneOf(c, "true", "false")
	}
	return oneOf(c, "''", "'a'", "'it''s'")
}

// query asks something of the columns, which is right.
func (c chooser) query() string {
	where := " from s"
	if c.Intn(2) == 0 {
		where += " where " + c.expr(api.Bool, 2)
	}
	var items []string
	if c.Intn(4) == 0 {
		for i := range 1 + c.Intn(3) {
			items = append(items, c.expr(1+c.Intn(3), 2)+" as "+"pqr"[i:i+1])
		}
		return "select " + strings.Join(items, ", ") + where
	}
	var group []string
	for _, i := range c.Perm(len(c.l))[:1+c.Intn(min(3, len(c.l)))] {
		group = append(group, c.l[i].Name)
	}
	for i := range 1 + c.Intn(3) {
		item := oneOf(c, "count", "sum("+c.expr(api.Int, 1)+")", oneOf(c, "least(", "most(")+c.expr(1+c.Intn(3), 1)+")")
		items = append(items, item+" as "+"pqr"[i:i+1])
	}
	slide := 1 + c.Intn(5)
	size := slide + c.Intn(9*slide+1)
	return "select " + strings.Join(items, ", ") + where + " group by " + strings.Join(group, ", ") + fmt.Sprint(" window ", size, " slide ", slide)
}

// asked reads a query by chance, which is not too long.
func (c chooser) asked(t *testing.T) api.Query {
	t.Helper()
	for {
		text := c.query()
		q, fault := query.Parse(text)
		if fault.How == api.OK {
			return q
		}
		if fault.How != api.ErrFull {
			t.Fatalf("%q: %v", text, fault)
		}
	}
}

// rows come mostly in the order of their time.
func (c chooser) rows(n, step int) [][]api.Val {
	var rows [][]api.Val
	time := c.Intn(3)
	for range n {
		time += c.Intn(step + 1)
		var r []api.Val
		for _, col := range c.l {
			r = append(r, c.val(col, time))
		}
		rows = append(rows, r)
	}
	return rows
}

func (c chooser) val(col api.Col, time int) api.Val {
	switch {
	case col.Name == "at" && c.Intn(12) == 0:
		return number(oneOf(c, -1, 0, time-1, math.MinInt, math.MaxInt, 1_000_001))
	case col.Name == "at":
		return number(time)
	case col.Type == api.Int:
		return number(oneOf(c, 0, 1, -1, 2, 7, math.MaxInt, math.MinInt, c.Intn(60)))
	case col.Type == api.Bool:
		return api.Val{Type: api.Bool, N: c.Intn(2)}
	}
	return words(oneOf(c, "", "a", "b", "it's", strconv.Itoa(c.Intn(60))))
}

// wild gives a value of whatever is in reach.
func (c chooser) wild() api.Val {
	return api.Val{
		Type: oneOf(c, 1, 2, 3, 1, 2, 3, 0, 4, -1, math.MinInt, math.MaxInt),
		N:    oneOf(c, 0, 0, 0, 1, 2, -1, math.MinInt, math.MaxInt, 1_000_000),
		S:    oneOf(c, "", "", "", "a", "\n", "\x00\xff", strings.Repeat("z", 40), strings.Repeat("z", 41)),
	}
}

// spoiled is a row like that one, which is perhaps none of the columns.
func (c chooser) spoiled(r []api.Val) []api.Val {
	r = slices.Clone(r)
	switch c.Intn(5) {
	case 0:
		return nil
	case 1:
		return r[1:]
	case 2:
		return append(r, c.wild())
	}
	r[c.Intn(len(r))] = c.wild()
	return r
}

// wildExpr gives an expression of whatever is in reach.
func (c chooser) wildExpr(deep int) api.Expr {
	e := api.Expr{Op: oneOf(c, "", "val", "col", "col", "+", "/", "=", "and", "or", "not", "neg", "len", "if", "count", "nor"), At: c.Intn(9) - 4}
	if c.Intn(3) > 0 && e.Op == "col" {
		e.Name = oneOf(c, "at", "a", "b", "z", "select", "\x00")
	}
	if e.Op == "val" || c.Intn(9) == 0 {
		e.Val = c.wild()
	}
	for range c.Intn(4) {
		if deep > 0 {
			e.Args = append(e.Args, c.wildExpr(deep-1))
		}
	}
	return e
}

// broken changes something of a query.
func (c chooser) broken(q api.Query) api.Query {
	n := oneOf(c, 0, 1, -1, 2, 10, 1000, 1001, math.MinInt, math.MaxInt)
	name := oneOf(c, "", "p", "n", "at", "a", "count", "abcdefghi", "\xff")
	switch c.Intn(9) {
	case 0:
		q.Size = n
	case 1:
		q.Slide = n
	case 2:
		q.Where = c.wildExpr(2)
	case 3:
		q.Cols = append(q.Cols, c.wildExpr(2))
	case 4:
		q.Names = append(q.Names, name)
	case 5:
		q.Group = append(q.Group, name)
	case 6:
		q.Aggs = append(q.Aggs, api.Agg{What: oneOf(c, "count", "sum", "least", "most", "", "all"), Of: c.wildExpr(1), Name: name})
	case 7:
		q.Names, q.Group = nil, nil
	case 8:
		q.Cols, q.Aggs = nil, nil
	}
	return q
}

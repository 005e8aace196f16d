package split_test

import (
	"fmt"
	"math"
	"math/rand"
	"strconv"
	"strings"

	"sluicebook/api"
)

// chooser makes queries with a group, and rows in the order of their time, by chance.
type chooser struct {
	*rand.Rand
	l []api.Col
}

func oneOf[T any](c chooser, l ...T) T { return l[c.Intn(len(l))] }

// cols lays the schema: `at`, and up to five others of any types, in any order.
func (c *chooser) cols() {
	c.l = []api.Col{{Name: "at", Type: api.Int}}
	for _, name := range []string{"a", "b", "c", "d", "e"}[:c.Intn(6)] {
		c.l = append(c.l, api.Col{Name: name, Type: 1 + c.Intn(3)})
	}
	c.Shuffle(len(c.l), func(i, j int) { c.l[i], c.l[j] = c.l[j], c.l[i] })
}

// expr writes an expression of a type.
func (c chooser) expr(typ, deep int) string {
	if deep == 0 || c.Intn(4) == 0 {
		return c.leaf(typ)
	}
	sub := func(typ int) string { return c.expr(typ, deep-1) }
	switch typ {
	case api.Int:
		return "(" + sub(api.Int) + oneOf(c, " + ", " - ", " * ", " / ", " % ") + sub(api.Int) + ")"
	case api.Bool:
		of := 1 + c.Intn(3)
		return "(" + oneOf(c, "not "+sub(api.Bool), sub(api.Bool)+oneOf(c, " and ", " or ")+sub(api.Bool), sub(of)+oneOf(c, " = ", " <> ", " < ", " >= ")+sub(of)) + ")"
	}
	return "if(" + sub(api.Bool) + ", " + sub(typ) + ", " + sub(typ) + ")"
}

func (c chooser) leaf(typ int) string {
	for _, i := range c.Perm(len(c.l)) {
		if c.l[i].Type == typ && c.Intn(4) > 0 {
			return c.l[i].Name
		}
	}
	switch typ {
	case api.Int:
		return strconv.Itoa(oneOf(c, 0, 1, 2, 7, math.MaxInt))
	case api.Bool:
		return oneOf(c, "true", "false")
	}
	return oneOf(c, "''", "'a'", "'it''s'")
}

// query asks something of groups, of so many columns as group tells by their places.
func (c chooser) query() (text string, group []int) {
	group = c.Perm(len(c.l))[:1+c.Intn(min(3, len(c.l)))]
	var names, items []string
	for _, i := range group {
		names = append(names, c.l[i].Name)
	}
	for i := range 1 + c.Intn(3) {
		item := oneOf(c, "count", "sum("+c.expr(api.Int, 1)+")", oneOf(c, "least(", "most(")+c.expr(1+c.Intn(3), 1)+")")
		items = append(items, item+" as "+"pqr"[i:i+1])
	}
	where := ""
	if c.Intn(2) == 0 {
		where = " where " + c.expr(api.Bool, 2)
	}
	slide := 1 + c.Intn(5)
	size := slide + c.Intn(9*slide+1)
	return "select " + strings.Join(items, ", ") + " from s" + where + " group by " + strings.Join(names, ", ") + fmt.Sprint(" window ", size, " slide ", slide), group
}

// rows come in the order of their time, but for some of which the time is none.
func (c chooser) rows(n, step int) [][]api.Val {
	var rows [][]api.Val
	time := c.Intn(3)
	for range n {
		time += c.Intn(step + 1)
		var r []api.Val
		for _, col := range c.l {
			r = append(r, c.val(col, time))
		}
		rows = append(rows, r)
	}
	return rows
}

func (c chooser) val(col api.Col, time int) api.Val {
	switch {
	case col.Name == "at" && c.Intn(20) == 0:
		return number(oneOf(c, -1, math.MinInt, math.MaxInt, 1_000_001))
	case col.Name == "at":
		return number(time)
	case col.Type == api.Int:
		return number(oneOf(c, 0, 1, -1, 2, 7, math.MaxInt, math.MinInt))
	case col.Type == api.Bool:
		return truth(c.Intn(2))
	}
	return words(oneOf(c, "", "a", "b", "it's", long(40)))
}

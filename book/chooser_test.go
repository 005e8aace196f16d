package book_test

import (
	"fmt"
	"math"
	"math/rand"
	"slices"
	"strconv"
	"strings"

	"sluicebook/api"
)

// chooser says commands by chance, mostly such as come to something as the model stands.
type chooser struct {
	*rand.Rand
	m        *model
	times    map[string]int // of each stream one that is not late
	sessions []int
}

func newChooser(seed int64, m *model) *chooser {
	c := &chooser{Rand: rand.New(rand.NewSource(seed)), m: m, times: map[string]int{}}
	for range 1 + c.Intn(5) {
		c.sessions = append(c.sessions, oneOf(c, 0, 1, 2, 1_000_000, c.Intn(1_000_001)))
	}
	return c
}

func oneOf[T any](c *chooser, l ...T) T { return l[c.Intn(len(l))] }

// cmd is a command by chance; so many of 100 are to come to nothing.
func (c *chooser) cmd(wrong int) api.Cmd {
	session := oneOf(c, c.sessions...)
	if c.seq(session) > 990_000 {
		// Little more can come of it.
		session = c.Intn(1_000_001)
		c.sessions = append(c.sessions, session)
	}
	cmd := api.Cmd{Session: session, Seq: c.seq(session)}
	streams, queries := keys(c.m.streams()), keys(c.m.queries())
	what := c.Intn(40)
	switch {
	case what < 2 && len(streams) < 8 || len(streams) == 0:
		cmd.What, cmd.Name, cmd.Text = api.Create, c.name(), c.schema()
	case what < 6:
		cmd.What, cmd.Name = api.Register, c.name()
		name := oneOf(c, streams...)
		cmd.Text = c.query(name, c.m.streams()[name])
	case what < 8 && len(queries) > 0:
		cmd.What, cmd.Name = api.Remove, oneOf(c, queries...)
	default:
		cmd.What, cmd.Name = api.Append, oneOf(c, streams...)
		cmd.Row = c.row(cmd.Name, c.m.streams()[cmd.Name])
	}
	if c.Intn(100) < wrong {
		c.spoil(&cmd)
	}
	return cmd
}

func (c *chooser) seq(session int) int {
	last := 0
	for _, e := range c.m.log {
		if e.c.Session == session {
			last = e.c.Seq
		}
	}
	return last + oneOf(c, 1, 1, 1, 1, 1, 2, 10, 50)
}

func (c *chooser) name() string {
	return oneOf(c, "a", "b", "s", "t", "select", "abcdefgh", "q", "p", "o", "z", "aa", "ab")
}

// schema has `at`, and up to five others of any types, in any order.
func (c *chooser) schema() string {
	cols := []string{"at int"}
	for _, name := range []string{"a", "b", "c", "d", "e"}[:c.Intn(6)] {
		cols = append(cols, name+oneOf(c, " int", " bool", " text"))
	}
	c.Shuffle(len(cols), func(i, j int) { cols[i], cols[j] = cols[j], cols[i] })
	return strings.Join(cols, ",")
}

// row comes mostly in the order of its time.
func (c *chooser) row(name string, l []api.Col) []api.Val {
	c.times[name] += c.Intn(5)
	var r []api.Val
	for _, col := range l {
		r = append(r, c.val(col, c.times[name]))
	}
	return r
}

func (c *chooser) val(col api.Col, time int) api.Val {
	switch {
	case col.Name == "at" && c.Intn(12) == 0:
		return number(oneOf(c, -1, 0, time-1, math.MinInt, math.MaxInt, 1_000_001))
	case col.Name == "at":
		return number(time)
	case col.Type == api.Int:
		return number(oneOf(c, 0, 1, -1, 2, 7, math.MaxInt, math.MinInt, c.Intn(60)))
	case col.Type == api.Bool:
		return api.Val{Type: api.Bool, N: c.Intn(2)}
	}
	return words(oneOf(c, "", "a", "b", "it's", strconv.Itoa(c.Intn(60))))
}

// query asks something of the columns, which is right.
func (c *chooser) query(name string, l []api.Col) string {
	where := " from " + name
	if c.Intn(2) == 0 {
		where += " where " + c.expr(l, api.Bool, 2)
	}
	var items, group []string
	if c.Intn(3) == 0 {
		for i := range 1 + c.Intn(3) {
			items = append(items, c.expr(l, 1+c.Intn(3), 2)+" as "+"pqr"[i:i+1])
		}
		return "select " + strings.Join(items, ", ") + where
	}
	for _, i := range c.Perm(len(l))[:1+c.Intn(min(3, len(l)))] {
		group = append(group, l[i].Name)
	}
	for i := range 1 + c.Intn(3) {
		item := oneOf(c, "count", "sum("+c.expr(l, api.Int, 1)+")", oneOf(c, "least(", "most(")+c.expr(l, 1+c.Intn(3), 1)+")")
		items = append(items, item+" as "+"pqr"[i:i+1])
	}
	slide := 1 + c.Intn(5)
	size := slide + c.Intn(9*slide+1)
	return "select " + strings.Join(items, ", ") + where + " group by " + strings.Join(group, ", ") + fmt.Sprint(" window ", size, " slide ", slide)
}

// expr writes an expression of a type.
func (c *chooser) expr(l []api.Col, typ, deep int) string {
	if deep == 0 || c.Intn(4) == 0 {
		return c.leaf(l, typ)
	}
	sub := func(typ int) string { return c.expr(l, typ, deep-1) }
	if c.Intn(5) == 0 {
		return "if(" + sub(api.Bool) + ", " + sub(typ) + ", " + sub(typ) + ")"
	}
	switch typ {
	case api.Int:
		if c.Intn(5) == 0 {
			return oneOf(c, "(- "+sub(api.Int)+")", "len("+sub(api.Text)+")")
		}
		return "(" + sub(api.Int) + oneOf(c, " + ", " - ", " * ", " / ", " % ") + sub(api.Int) + ")"
	case api.Bool:
		of := 1 + c.Intn(3)
		return "(" + oneOf(c, "not "+sub(api.Bool), sub(api.Bool)+oneOf(c, " and ", " or ")+sub(api.Bool), sub(of)+oneOf(c, " = ", " <> ", " < ", " <= ", " > ", " >= ")+sub(of)) + ")"
	}
	return c.leaf(l, typ)
}

func (c *chooser) leaf(l []api.Col, typ int) string {
	for _, i := range c.Perm(len(l)) {
		if l[i].Type == typ && c.Intn(4) > 0 {
			return l[i].Name
		}
	}
	switch typ {
	case api.Int:
		return strconv.Itoa(oneOf(c, 0, 1, 2, 7, math.MaxInt))
	case api.Bool:
		return oneOf(c, "true", "false")
	}
	return oneOf(c, "''", "'a'", "'it''s'")
}

// wild is a number of those in reach.
func (c *chooser) wild() int {
	return oneOf(c, 0, 1, 2, 3, 4, 5, -1, 1_000_000, 1_000_001, math.MinInt, math.MaxInt)
}

// wildText is a text of those in reach.
func (c *chooser) wildText() string {
	return oneOf(c, "", "s", "q", "at int", "at", "\x00\xff", "select at as n from s", "select", strings.Repeat("z", 41), strings.Repeat("at int,", 9))
}

// spoil changes something of a command.
func (c *chooser) spoil(cmd *api.Cmd) {
	switch c.Intn(8) {
	case 0:
		cmd.What = c.wild()
	case 1:
		cmd.Session = c.wild()
	case 2:
		cmd.Seq = c.wild()
	case 3:
		cmd.Seq -= oneOf(c, 1, 1, 1, 2, 10)
	case 4:
		cmd.Name = oneOf(c, "", "S", "none", "s ", "abcdefghi", "\xff", "é")
	case 5:
		cmd.Text = c.cut(cmd.Text)
	case 6:
		cmd.Text = c.wildText()
	case 7:
		c.spoilRow(cmd)
	}
}

// cut leaves something of a text out, or puts something in.
func (c *chooser) cut(text string) string {
	from := c.Intn(len(text) + 1)
	to := from + c.Intn(min(9, len(text)-from+1))
	return text[:from] + oneOf(c, "", "", " ", "zz", "'", "at") + text[to:]
}

func (c *chooser) spoilRow(cmd *api.Cmd) {
	v := api.Val{Type: oneOf(c, 1, 2, 3, c.wild()), N: c.wild(), S: oneOf(c, "", "", c.wildText())}
	r := slices.Clone(cmd.Row)
	if len(r) == 0 || c.Intn(3) == 0 {
		cmd.Row = append(r, v)
		return
	}
	i := c.Intn(len(r))
	if c.Intn(3) == 0 {
		cmd.Row = slices.Delete(r, i, i+1)
		return
	}
	r[i] = v
	cmd.Row = r
}

package query_test

import (
	"math"
	"math/rand"
	"runtime/debug"
	"slices"
	"strings"
	"testing"

	"sluicebook/api"
	"sluicebook/kind"
	"sluicebook/plain"
	"sluicebook/query"
	"sluicebook/row"
)

// TestNumbers: what the chapter writes out stands by its name in api.
func TestNumbers(t *testing.T) {
	if api.MaxSpan != 1000 || api.MaxCols != 6 || api.MaxName != 8 || api.MaxQuery != 400 {
		t.Error("another number")
	}
}

// TestIsAgg is of Q1: the four that may be, each by its name.
func TestIsAgg(t *testing.T) {
	if query.Count != "count" || query.Sum != "sum" || query.Least != "least" || query.Most != "most" {
		t.Error("another name")
	}
	for _, what := range []string{"count", "sum", "least", "most"} {
		if !query.IsAgg(what) {
			t.Errorf("%q is none", what)
		}
		for _, near := range []string{"", what[1:], what[:len(what)-1], what + "s", " " + what, what + " ", strings.ToUpper(what), what + what} {
			if query.IsAgg(near) {
				t.Errorf("%q is one", near)
			}
		}
	}
}

// TestIsNothing is of Q1 and Q3: what is nothing is so by its Op alone.
func TestIsNothing(t *testing.T) {
	for _, e := range []api.Expr{{}, {Name: "a", At: 3}, {Val: api.Val{Type: api.Int, N: 1}}, {Args: []api.Expr{col("a", 0)}}} {
		if !query.IsNothing(e) {
			t.Errorf("%v is something", e)
		}
	}
	for _, e := range []api.Expr{{Op: "nor"}, {Op: " "}, {Op: "\x00"}, col("a", 0), number(0, 0), op("not", 0, truth(0, 0))} {
		if query.IsNothing(e) {
			t.Errorf("%v is nothing", e)
		}
	}
}

// TestCheck is of Q3: the columns of what comes, of columns and of a group.
func TestCheck(t *testing.T) {
	for _, c := range []struct {
		text string
		want []api.Col
	}{
		{"select i as x from s", []api.Col{{Name: "x", Type: api.Int}}},
		{"select t as at, i as t, b as i, not b as b from s", []api.Col{{Name: "at", Type: api.Text}, {Name: "t", Type: api.Int}, {Name: "i", Type: api.Bool}, {Name: "b", Type: api.Bool}}},
		{"select i = 1 as x, len(t) as y, if(b, t, 'x') as z from s where b and i < at", []api.Col{{Name: "x", Type: api.Bool}, {Name: "y", Type: api.Int}, {Name: "z", Type: api.Text}}},
		{"select 1 as a, 2 as b, 'x' as c, true as d, 5 as e, abcdefgh as f from s where true", []api.Col{{Name: "a", Type: api.Int}, {Name: "b", Type: api.Int}, {Name: "c", Type: api.Text}, {Name: "d", Type: api.Bool}, {Name: "e", Type: api.Int}, {Name: "f", Type: api.Int}}},
		{"select count as n from s group by t window 5", []api.Col{{Name: "t", Type: api.Text}, {Name: "n", Type: api.Int}}},
		{"select count as n from s group by i, b window 5 slide 1", []api.Col{{Name: "i", Type: api.Int}, {Name: "b", Type: api.Bool}, {Name: "n", Type: api.Int}}},
		{"select sum(i * 2) as u, least(i) as v, least(b) as w, least(t) as x from s group by at window 1000 slide 100", []api.Col{{Name: "at", Type: api.Int}, {Name: "u", Type: api.Int}, {Name: "v", Type: api.Int}, {Name: "w", Type: api.Bool}, {Name: "x", Type: api.Text}}},
		{"select most(i) as v, most(b or i = 1) as w, most(t) as x from s where t <> '' group by abcdefgh, t window 1", []api.Col{{Name: "abcdefgh", Type: api.Int}, {Name: "t", Type: api.Text}, {Name: "v", Type: api.Int}, {Name: "w", Type: api.Bool}, {Name: "x", Type: api.Text}}},
		{"select count as n from s group by at, i, b, t, abcdefgh window 10 slide 10", append(columns(), api.Col{Name: "n", Type: api.Int})},
		{"select count as a, count as c, count as d, count as e, count as f from s group by b window 10 slide 9", []api.Col{{Name: "b", Type: api.Bool}, {Name: "a", Type: api.Int}, {Name: "c", Type: api.Int}, {Name: "d", Type: api.Int}, {Name: "e", Type: api.Int}, {Name: "f", Type: api.Int}}},
	} {
		q, f := query.Parse(c.text)
		if f != (api.Fault{}) {
			t.Fatalf("Parse(%q): %v", c.text, f)
		}
		holdCheck(t, q, columns(), c.want, api.OK)
		holdCheck(t, moved(q), columns(), c.want, api.OK)
	}
	holdCheck(t, plainQuery(), columns(), []api.Col{{Name: "x", Type: api.Int}, {Name: "y", Type: api.Text}, {Name: "z", Type: api.Bool}}, api.OK)
	holdCheck(t, groupQuery(), columns(), []api.Col{{Name: "t", Type: api.Text}, {Name: "i", Type: api.Int}, {Name: "n", Type: api.Int}, {Name: "u", Type: api.Int}, {Name: "v", Type: api.Text}, {Name: "w", Type: api.Bool}}, api.OK)
}

// TestCheckBeyondParse is of Q3: what no text has, but of which the chapter names no error.
func TestCheckBeyondParse(t *testing.T) {
	q := plainQuery()
	q.From, q.Names = "No Name", []string{"sum", "or", "select"}
	holdCheck(t, q, columns(), []api.Col{{Name: "sum", Type: api.Int}, {Name: "or", Type: api.Text}, {Name: "select", Type: api.Bool}}, api.OK)
	q = groupQuery()
	q.Aggs = nil
	holdCheck(t, q, columns(), []api.Col{{Name: "t", Type: api.Text}, {Name: "i", Type: api.Int}}, api.OK)
	q = groupQuery()
	q.Group = nil
	holdCheck(t, q, columns(), []api.Col{{Name: "n", Type: api.Int}, {Name: "u", Type: api.Int}, {Name: "v", Type: api.Text}, {Name: "w", Type: api.Bool}}, api.OK)
	// A schema may have words of the language as names, by which a group may go.
	l := []api.Col{{Name: "sum", Type: api.Bool}, {Name: "i", Type: api.Int}}
	q = api.Query{Group: []string{"sum"}, Size: 1, Slide: 1, Aggs: []api.Agg{agg("sum", col("i", 0), "by")}}
	holdCheck(t, q, l, []api.Col{{Name: "sum", Type: api.Bool}, {Name: "by", Type: api.Int}}, api.OK)
	// Nothing is told by Op alone.
	q = plainQuery()
	q.Where = api.Expr{Name: "zz", Args: []api.Expr{{}}, At: 9}
	holdCheck(t, q, columns(), []api.Col{{Name: "x", Type: api.Int}, {Name: "y", Type: api.Text}, {Name: "z", Type: api.Bool}}, api.OK)
	// An empty list and none are the same.
	q = plainQuery()
	q.Group, q.Aggs = []string{}, []api.Agg{}
	holdCheck(t, q, columns(), []api.Col{{Name: "x", Type: api.Int}, {Name: "y", Type: api.Text}, {Name: "z", Type: api.Bool}}, api.OK)
}

// fault is a change by which a query, or the columns over which it is, have an error.
type fault struct {
	name   string
	rank   int // of two that are of unlike ranks the chapter names the lesser one first
	how    api.Errno
	change func(q *api.Query, l *[]api.Col)
}

// schemaFaults are of chapter 2's Schema of l.
func schemaFaults() []fault {
	return []fault{
		{"no columns", 0, api.ErrNone, func(_ *api.Query, l *[]api.Col) { *l = nil }},
		{"too many columns", 0, api.ErrFull, func(_ *api.Query, l *[]api.Col) {
			*l = append(*l, api.Col{Name: "x", Type: 1}, api.Col{Name: "y", Type: 1})
		}},
		{"a wrong name", 0, api.ErrSyntax, func(_ *api.Query, l *[]api.Col) { (*l)[4].Name = "A" }},
		{"a wrong type", 0, api.ErrRange, func(_ *api.Query, l *[]api.Col) { (*l)[4].Type = 4 }},
		{"a name twice", 0, api.ErrClash, func(_ *api.Query, l *[]api.Col) { (*l)[4].Name = "i" }},
	}
}

// expressionFaults are those of one expression of a query, which is neither a Bool nor an Int if it is to be one.
func expressionFaults(name string, rank int, of func(q *api.Query) *api.Expr) []fault {
	var l []fault
	add := func(what string, how api.Errno, e api.Expr) {
		l = append(l, fault{name + " is " + what, rank, how, func(q *api.Query, _ *[]api.Col) { *of(q) = e }})
	}
	for _, w := range wrong() {
		add("wrong", w.want, w.e)
	}
	add("of no column", api.ErrNone, op("+", 1, col("i", 0), col("zz", 2)))
	add("of unlike types", api.ErrType, op("+", 1, col("i", 0), col("t", 2)))
	return l
}

// plainFaults are those of a query without a group.
func plainFaults() []fault {
	l := append(schemaFaults(), []fault{
		{"a Slide", 1, api.ErrShape, func(q *api.Query, _ *[]api.Col) { q.Slide = 1 }},
		{"a Slide below 0", 1, api.ErrShape, func(q *api.Query, _ *[]api.Col) { q.Slide = -1 }},
		{"an Agg", 1, api.ErrShape, func(q *api.Query, _ *[]api.Col) { q.Aggs = []api.Agg{counted("n")} }},
		{"a Group", 1, api.ErrShape, func(q *api.Query, _ *[]api.Col) { q.Group = []string{"i"} }},
		{"a Name more", 1, api.ErrShape, func(q *api.Query, _ *[]api.Col) { q.Names = append(q.Names, "u") }},
		{"a Name less", 1, api.ErrShape, func(q *api.Query, _ *[]api.Col) {
			q.Names = q.Names[:max(0, len(q.Names)-1)]
			q.Cols = append(q.Cols, col("i", 0))
		}},
		{"a Size", 1, api.ErrShape, func(q *api.Query, _ *[]api.Col) { q.Size, q.Slide, q.Names = 5, 5, []string{"u"} }},
		{"a Size below 0", 1, api.ErrShape, func(q *api.Query, _ *[]api.Col) { q.Size, q.Names = -1, []string{"u"} }},
		{"a Size too great", 1, api.ErrShape, func(q *api.Query, _ *[]api.Col) { q.Size, q.Cols = 1001, []api.Expr{col("i", 0)} }},
		{"no Cols", 3, api.ErrNone, func(q *api.Query, _ *[]api.Col) { q.Cols, q.Names = nil, nil }},
		{"seven Cols", 4, api.ErrFull, func(q *api.Query, _ *[]api.Col) {
			for _, name := range []string{"c", "d", "e", "f"} {
				q.Cols, q.Names = append(q.Cols, col("i", 0)), append(q.Names, name)
			}
		}},
		{"Where is an Int", 5, api.ErrType, func(q *api.Query, _ *[]api.Col) { q.Where = col("i", 0) }},
		{"Where is a Text", 5, api.ErrType, func(q *api.Query, _ *[]api.Col) { q.Where = words("", 0) }},
		{"a Name that is none", 9, api.ErrSyntax, func(q *api.Query, _ *[]api.Col) { q.Names[1] = "A" }},
		{"a Name that is empty", 9, api.ErrSyntax, func(q *api.Query, _ *[]api.Col) { q.Names[0] = "" }},
		{"a Name that is too long", 9, api.ErrSyntax, func(q *api.Query, _ *[]api.Col) { q.Names[2] = "abcdefghi" }},
		{"a Name twice", 9, api.ErrClash, func(q *api.Query, _ *[]api.Col) { q.Names[2] = q.Names[0] }},
	}...)
	l = append(l, expressionFaults("Where", 5, func(q *api.Query) *api.Expr { return &q.Where })...)
	for i := range 3 {
		cols := expressionFaults("a Col", 6+i, func(q *api.Query) *api.Expr { return &q.Cols[i] })
		l = append(l, cols...)
		l = append(l, fault{"a Col is nothing", 6 + i, api.ErrSyntax, func(q *api.Query, _ *[]api.Col) { q.Cols[i] = api.Expr{} }})
	}
	return l
}

// groupFaults are those of a query with a group.
func groupFaults() []fault {
	l := append(schemaFaults(), []fault{
		{"a Col", 1, api.ErrShape, func(q *api.Query, _ *[]api.Col) { q.Cols = []api.Expr{col("i", 0)} }},
		{"a Name", 1, api.ErrShape, func(q *api.Query, _ *[]api.Col) { q.Names = []string{"x"} }},
		{"a Col and a Name", 1, api.ErrShape, func(q *api.Query, _ *[]api.Col) { q.Cols, q.Names = []api.Expr{col("i", 0)}, []string{"x"} }},
		{"no Size", 1, api.ErrShape, func(q *api.Query, _ *[]api.Col) { q.Size, q.Slide = 0, 5 }},
		{"neither Size nor Slide", 1, api.ErrShape, func(q *api.Query, _ *[]api.Col) { q.Size, q.Slide, q.Aggs = 0, 0, []api.Agg{counted("n")} }},
		{"a Size below 0", 2, api.ErrRange, func(q *api.Query, _ *[]api.Col) { q.Size = -1 }},
		{"a Size too great", 2, api.ErrRange, func(q *api.Query, _ *[]api.Col) { q.Size, q.Slide = 1001, 1000 }},
		{"a Slide of 0", 2, api.ErrRange, func(q *api.Query, _ *[]api.Col) { q.Slide = 0 }},
		{"a Slide below 0", 2, api.ErrRange, func(q *api.Query, _ *[]api.Col) { q.Slide = -5 }},
		{"a Slide above Size", 2, api.ErrRange, func(q *api.Query, _ *[]api.Col) { q.Slide = 21 }},
		{"a Slide too small", 2, api.ErrRange, func(q *api.Query, _ *[]api.Col) { q.Size, q.Slide = 20, 1 }},
		{"no Group and no Aggs", 3, api.ErrNone, func(q *api.Query, _ *[]api.Col) { q.Group, q.Aggs = nil, nil }},
		{"seven with Aggs", 4, api.ErrFull, func(q *api.Query, _ *[]api.Col) { q.Aggs = append(q.Aggs, counted("o")) }},
		{"seven with Group", 4, api.ErrFull, func(q *api.Query, _ *[]api.Col) { q.Group = append(q.Group, "b") }},
		{"Where is an Int", 5, api.ErrType, func(q *api.Query, _ *[]api.Col) { q.Where = col("i", 0) }},
		{"Where is a Text", 5, api.ErrType, func(q *api.Query, _ *[]api.Col) { q.Where = words("", 0) }},
		{"a Group of no column", 7, api.ErrNone, func(q *api.Query, _ *[]api.Col) { q.Group[0] = "zz" }},
		{"a Group of no name", 7, api.ErrNone, func(q *api.Query, _ *[]api.Col) { q.Group[0] = "" }},
		{"a Group twice", 8, api.ErrClash, func(q *api.Query, _ *[]api.Col) { q.Group[1] = q.Group[0] }},
		{"another Group of no column", 8, api.ErrNone, func(q *api.Query, _ *[]api.Col) { q.Group[1] = "A" }},
		{"an Of of count", 9, api.ErrShape, func(q *api.Query, _ *[]api.Col) { q.Aggs[0].Of = col("i", 0) }},
		{"a wrong Of of count", 9, api.ErrShape, func(q *api.Query, _ *[]api.Col) { q.Aggs[0].Of = op("nor", 0) }},
		{"a sum of a Text", 10, api.ErrType, func(q *api.Query, _ *[]api.Col) { q.Aggs[1].Of = col("t", 0) }},
		{"a sum of a Bool", 10, api.ErrType, func(q *api.Query, _ *[]api.Col) { q.Aggs[1].Of = col("b", 0) }},
		{"a Name that is none", 13, api.ErrSyntax, func(q *api.Query, _ *[]api.Col) { q.Aggs[1].Name = "A" }},
		{"a Name that is empty", 13, api.ErrSyntax, func(q *api.Query, _ *[]api.Col) { q.Aggs[0].Name = "" }},
		{"a Name that is too long", 13, api.ErrSyntax, func(q *api.Query, _ *[]api.Col) { q.Aggs[3].Name = "abcdefghi" }},
		{"a Name twice", 13, api.ErrClash, func(q *api.Query, _ *[]api.Col) { q.Aggs[3].Name = q.Aggs[0].Name }},
		{"a Name of the Group", 13, api.ErrClash, func(q *api.Query, _ *[]api.Col) { q.Aggs[2].Name = q.Group[1] }},
	}...)
	l = append(l, expressionFaults("Where", 5, func(q *api.Query) *api.Expr { return &q.Where })...)
	for i := range 4 {
		for _, what := range []string{"", "avg", "Count", "len"} {
			l = append(l, fault{"a What that is none", 9 + i, api.ErrSyntax, func(q *api.Query, _ *[]api.Col) { q.Aggs[i].What = what }})
		}
		if i > 0 {
			l = append(l, expressionFaults("an Of", 9+i, func(q *api.Query) *api.Expr { return &q.Aggs[i].Of })...)
			l = append(l, fault{"an Of is nothing", 9 + i, api.ErrSyntax, func(q *api.Query, _ *[]api.Col) { q.Aggs[i].Of = api.Expr{} }})
		}
	}
	return l
}

// TestCheckFaults is of Q3, P1 and P3: each error alone, and of two at once the one that is named first.
func TestCheckFaults(t *testing.T) {
	for _, base := range []struct {
		q      func() api.Query
		faults []fault
	}{
		{plainQuery, plainFaults()}, {groupQuery, groupFaults()},
	} {
		for _, first := range base.faults {
			holdFaults(t, base.q(), first)
			for _, second := range base.faults {
				if first.rank < second.rank {
					holdFaults(t, base.q(), first, second)
				}
			}
		}
	}
}

// holdFaults makes the fault that is named first last, so that it is there whatever the others change.
func holdFaults(t *testing.T, q api.Query, first fault, others ...fault) {
	t.Helper()
	l, name := columns(), first.name
	for _, f := range others {
		f.change(&q, &l)
		name += ", and " + f.name
	}
	first.change(&q, &l)
	if got, err := query.Check(q, l); len(got) != 0 || plain.Told(err) != first.how {
		t.Errorf("Check where %s: %v, %v, want %v", name, got, err, first.how)
	}
}

// TestCheckOneByOne is of Q3 and P3: of several Cols, Groups or Aggs that are wrong the first is told.
func TestCheckOneByOne(t *testing.T) {
	for _, c := range []struct {
		group []string
		want  api.Errno
	}{
		{[]string{"i", "i", "zz"}, api.ErrClash},
		{[]string{"i", "zz", "i"}, api.ErrNone},
		{[]string{"zz", "zz"}, api.ErrNone},
		{[]string{"t", "i", "b", "t"}, api.ErrClash},
		{[]string{"A"}, api.ErrNone},
		{[]string{""}, api.ErrNone},
		{[]string{"i", "t", "b", "at", "abcdefgh", "i"}, api.ErrClash},
		{[]string{"i", "i", "i", "i", "i", "i", "i"}, api.ErrFull},
	} {
		holdCheck(t, api.Query{Group: c.group, Size: 1, Slide: 1}, columns(), nil, c.want)
	}
	none, text, nor := col("zz", 0), col("t", 0), op("nor", 0)
	for _, c := range []struct {
		aggs []api.Agg
		want api.Errno
	}{
		{[]api.Agg{{What: "avg"}, agg("sum", text, "")}, api.ErrSyntax},
		{[]api.Agg{agg("sum", text, ""), {What: "avg"}}, api.ErrType},
		{[]api.Agg{agg("count", text, ""), {What: "avg"}}, api.ErrShape},
		{[]api.Agg{agg("sum", none, ""), agg("count", text, "")}, api.ErrNone},
		{[]api.Agg{agg("most", nor, ""), agg("least", none, "")}, api.ErrSyntax},
		{[]api.Agg{agg("most", text, ""), agg("least", none, "A")}, api.ErrNone},
		{[]api.Agg{agg("avg", none, "")}, api.ErrSyntax},
		{[]api.Agg{agg("sum", op("+", 0, text, none), "")}, api.ErrNone},
		{[]api.Agg{agg("sum", op("+", 0, text, text), "")}, api.ErrType},
		{[]api.Agg{agg("most", text, "n"), agg("most", text, "n"), agg("most", text, "")}, api.ErrClash},
		{[]api.Agg{agg("most", text, "n"), agg("most", text, ""), agg("most", text, "n")}, api.ErrSyntax},
	} {
		holdCheck(t, api.Query{Size: 1, Slide: 1, Aggs: c.aggs}, columns(), nil, c.want)
	}
}

// spans are sizes and slides at each edge, one beyond it, and far beyond.
func spans() []int {
	return []int{
		math.MinInt, math.MinInt + 1, math.MinInt / 10, math.MinInt/10 - 1, -1 << 32, -1001, -1000, -11, -10, -2, -1,
		0, 1, 2, 3, 9, 10, 11, 20, 21, 99, 100, 101, 500, 991, 999, 1000, 1001, 1002, 10_000, 10_001,
		1 << 32, 1<<32 + 10, math.MaxInt/10 - 1, math.MaxInt / 10, math.MaxInt/10 + 1, math.MaxInt - 1, math.MaxInt,
	}
}

// TestCheckSpans is of Q3: each edge of Size and Slide, and one beyond it.
func TestCheckSpans(t *testing.T) {
	comes := []api.Col{{Name: "i", Type: api.Int}, {Name: "n", Type: api.Int}}
	for _, size := range spans() {
		for _, slide := range spans() {
			holdSpan(t, size, slide, comes)
		}
	}
	for size := -3; size <= 1003; size++ {
		for _, slide := range []int{-1, 0, 1, size / 10, size/10 + 1, (size + 9) / 10, (size+9)/10 - 1, size - 1, size, size + 1} {
			holdSpan(t, size, slide, comes)
		}
	}
}

func holdSpan(t *testing.T, size, slide int, comes []api.Col) {
	t.Helper()
	q := api.Query{From: "s", Group: []string{"i"}, Size: size, Slide: slide, Aggs: []api.Agg{counted("n")}}
	switch {
	case size == 0:
		holdCheck(t, q, columns(), nil, api.ErrShape)
	case size >= 1 && size <= 1000 && slide >= 1 && slide <= size && size <= 10*slide:
		holdCheck(t, q, columns(), comes, api.OK)
	default:
		holdCheck(t, q, columns(), nil, api.ErrRange)
	}
	q.Group, q.Aggs = nil, nil
	switch {
	case size == 0 && slide != 0:
		holdCheck(t, q, columns(), nil, api.ErrShape)
	case size == 0, size >= 1 && size <= 1000 && slide >= 1 && slide <= size && size <= 10*slide:
		holdCheck(t, q, columns(), nil, api.ErrNone)
	default:
		holdCheck(t, q, columns(), nil, api.ErrRange)
	}
	q.Cols, q.Names = []api.Expr{col("i", 0)}, []string{"n"}
	if size == 0 && slide == 0 {
		holdCheck(t, q, columns(), comes[1:], api.OK)
	} else {
		holdCheck(t, q, columns(), nil, api.ErrShape)
	}
}

// TestCheckCounts is of Q3: how many columns may come, of Cols and of a group.
func TestCheckCounts(t *testing.T) {
	names := []string{"a", "c", "d", "e", "f", "g", "h", "j"}
	told := func(n int) api.Errno {
		switch {
		case n == 0:
			return api.ErrNone
		case n > 6:
			return api.ErrFull
		}
		return api.OK
	}
	for n := range 9 {
		q := api.Query{Cols: slices.Repeat([]api.Expr{col("i", 0)}, n), Names: names[:n]}
		if got, err := query.Check(q, columns()); plain.Told(err) != told(n) || err == nil && len(got) != n {
			t.Errorf("Check of %d Cols: %v, %v", n, got, err)
		}
		for m := range 6 {
			q := api.Query{Size: 1, Slide: 1}
			for i := range n {
				q.Aggs = append(q.Aggs, counted(names[i]))
			}
			for i := range m {
				q.Group = append(q.Group, columns()[i].Name)
			}
			if got, err := query.Check(q, columns()); plain.Told(err) != told(n+m) || err == nil && len(got) != n+m {
				t.Errorf("Check of %d Aggs, and %d Groups: %v, %v", n, m, got, err)
			}
		}
	}
}

// faultsOf tells all errors of a query over columns that are right, in the order of the chapter.
func faultsOf(q api.Query, l []api.Col) (comes []api.Col, all []api.Errno) {
	when := func(so bool, how api.Errno) {
		if so {
			all = append(all, how)
		}
	}
	of := func(e api.Expr) int {
		t, f := kind.Of(e, l)
		when(f.How != api.OK, f.How)
		return t
	}
	add := func(name string, t int) { comes = append(comes, api.Col{Name: name, Type: t}) }
	ofGroup := q.Size != 0
	when(!ofGroup && (q.Slide != 0 || len(q.Aggs) > 0 || len(q.Group) > 0 || len(q.Names) != len(q.Cols)), api.ErrShape)
	when(ofGroup && (len(q.Cols) > 0 || len(q.Names) > 0), api.ErrShape)
	when(q.Size < 0 || q.Size > 1000, api.ErrRange)
	when(ofGroup && (q.Slide < 1 || q.Slide > q.Size || q.Slide <= 1000 && q.Size > 10*q.Slide), api.ErrRange)
	when(!ofGroup && len(q.Cols) == 0 || ofGroup && len(q.Group)+len(q.Aggs) == 0, api.ErrNone)
	when(!ofGroup && len(q.Cols) > 6 || ofGroup && len(q.Group)+len(q.Aggs) > 6, api.ErrFull)
	if q.Where.Op != "" {
		when(of(q.Where) != api.Bool, api.ErrType)
	}
	for i, e := range q.Cols {
		add(append(slices.Clone(q.Names), make([]string, len(q.Cols))...)[i], of(e))
	}
	for i, name := range q.Group {
		at := slices.IndexFunc(l, func(c api.Col) bool { return c.Name == name })
		when(at < 0, api.ErrNone)
		when(slices.Index(q.Group, name) < i, api.ErrClash)
		add(name, l[max(at, 0)].Type)
	}
	for _, a := range q.Aggs {
		when(!slices.Contains(whats, a.What), api.ErrSyntax)
		when(a.What == "count" && a.Of.Op != "", api.ErrShape)
		t := api.Int
		if a.What != "count" {
			t = of(a.Of)
		}
		when(a.What == "sum" && t != api.Int, api.ErrType)
		add(a.Name, t)
	}
	if err := row.Schema(comes); err != nil {
		all = append(all, plain.Told(err))
	}
	return comes, all
}

// TestCheckSome is of Q3: queries by chance, some of them changed, held against a second way.
func TestCheckSome(t *testing.T) {
	r := rand.New(rand.NewSource(4))
	times := map[api.Errno]int{}
	for range 60_000 {
		q := plainQuery()
		switch r.Intn(5) {
		case 0, 1:
			q = groupQuery()
			q.Aggs = q.Aggs[:1+r.Intn(4)]
			r.Shuffle(len(q.Aggs), func(i, j int) { q.Aggs[i], q.Aggs[j] = q.Aggs[j], q.Aggs[i] })
		case 2:
			q = someQuery(r)
		}
		for range r.Intn(4) {
			change(r, &q)
		}
		l := columns()
		r.Shuffle(len(l), func(i, j int) { l[i], l[j] = l[j], l[i] })
		l = l[:len(l)-max(0, r.Intn(20)-17)]
		comes, all := faultsOf(q, l)
		how := api.OK
		if len(all) > 0 {
			comes, how = nil, all[0]
		}
		times[how]++
		holdCheck(t, q, l, comes, how)
	}
	for _, how := range []api.Errno{api.OK, api.ErrRange, api.ErrSyntax, api.ErrShape, api.ErrFull, api.ErrNone, api.ErrClash, api.ErrType} {
		if times[how] < 100 {
			t.Errorf("only %d times %v", times[how], how)
		}
	}
}

// TestEndless is of P1: what is far too great, or stands within itself, in each place of an expression.
func TestEndless(t *testing.T) {
	// Calls as deep as this would need far more.
	defer debug.SetMaxStack(debug.SetMaxStack(8 << 20))
	for i, e := range endless() {
		for k, q := range []api.Query{plainQuery(), plainQuery(), groupQuery(), groupQuery(), groupQuery()} {
			want := api.ErrFull
			switch k {
			case 0, 2:
				q.Where = e
			case 1:
				q.Cols[2] = e
			case 3:
				q.Aggs[3].Of = e
			case 4:
				q.Aggs[0].Of, want = e, api.ErrShape
			}
			if got, err := query.Check(q, columns()); len(got) != 0 || plain.Told(err) != want {
				t.Errorf("Check of endless %d at place %d: %v, %v, want %v", i, k, got, err, want)
			}
		}
	}
	many := plainQuery()
	many.Cols, many.Names = make([]api.Expr, 1<<16), make([]string, 1<<16)
	if got, err := query.Check(many, columns()); len(got) != 0 || plain.Told(err) != api.ErrFull {
		t.Errorf("Check of many Cols: %v, %v", got, err)
	}
	if got, err := query.Check(api.Query{}, make([]api.Col, 1<<16)); len(got) != 0 || plain.Told(err) != api.ErrFull {
		t.Errorf("Check over many columns: %v, %v", got, err)
	}
}

// roomyList is a list with room behind it, and something in it.
func roomyList[T any](l []T, behind T) []T {
	more := append(make([]T, 0, len(l)+2), l...)
	return append(more, behind, behind)[:len(l)]
}

// behindIs tells whether what roomyList laid is as it was.
func behindIs[T any](l []T, so func(x T) bool) bool {
	return cap(l) >= len(l)+2 && so(l[:len(l)+2][len(l)]) && so(l[:len(l)+2][len(l)+1])
}

// roomy is a query with room behind each of its lists, and something in it.
func roomy(q api.Query) api.Query {
	var expr func(e api.Expr) api.Expr
	expr = func(e api.Expr) api.Expr {
		args := slices.Clone(e.Args)
		for i, a := range args {
			args[i] = expr(a)
		}
		e.Args = roomyList(args, col("behind", 0))
		return e
	}
	q = copied(q)
	q.Where = expr(q.Where)
	for i := range q.Cols {
		q.Cols[i] = expr(q.Cols[i])
	}
	for i := range q.Aggs {
		q.Aggs[i].Of = expr(q.Aggs[i].Of)
	}
	q.Cols, q.Names, q.Group = roomyList(q.Cols, col("behind", 0)), roomyList(q.Names, "behind"), roomyList(q.Group, "behind")
	q.Aggs = roomyList(q.Aggs, counted("behind"))
	return q
}

// untouched tells whether all that roomy laid is as it was.
func untouched(q api.Query) bool {
	isBehind := func(e api.Expr) bool { return alike(e, col("behind", 0)) }
	var expr func(e api.Expr) bool
	expr = func(e api.Expr) bool {
		return behindIs(e.Args, isBehind) && !slices.ContainsFunc(e.Args, func(a api.Expr) bool { return !expr(a) })
	}
	isName := func(s string) bool { return s == "behind" }
	so := expr(q.Where) && behindIs(q.Cols, isBehind) && behindIs(q.Names, isName) && behindIs(q.Group, isName)
	so = so && behindIs(q.Aggs, func(a api.Agg) bool { return a.What == "count" && a.Name == "behind" && alike(a.Of, api.Expr{}) })
	for _, e := range q.Cols {
		so = so && expr(e)
	}
	for _, a := range q.Aggs {
		so = so && expr(a.Of)
	}
	return so
}

// TestListsStay is of P2 and P4: what is handed in stays as it is, and what lies behind its length is neither read nor written.
func TestListsStay(t *testing.T) {
	r := rand.New(rand.NewSource(5))
	for n := range 5_000 {
		q := oneOf(r, plainQuery(), groupQuery(), someQuery(r))
		for range r.Intn(3) {
			change(r, &q)
		}
		handed, l := roomy(q), roomyList(columns()[:n%6], api.Col{Name: "behind", Type: api.Int})
		text, err := query.Print(q)
		if got, told := query.Print(handed); got != text || plain.Told(told) != plain.Told(err) {
			t.Errorf("Print(%s): %q, %v, want %q, %v", show(q), got, told, text, err)
		}
		want, err := query.Check(q, columns()[:n%6])
		holdCheck(t, handed, l, want, plain.Told(err))
		isBehind := func(c api.Col) bool { return c == api.Col{Name: "behind", Type: api.Int} }
		if !alikeQueries(handed, q) || !untouched(handed) || !slices.Equal(l, columns()[:n%6]) || !behindIs(l, isBehind) {
			t.Errorf("%s or its columns were written into", show(q))
		}
	}
}

// TestCheckFresh is of P2: what comes out is the caller's, and what is done afterwards with what was handed in changes nothing of it.
func TestCheckFresh(t *testing.T) {
	for _, q := range []api.Query{plainQuery(), groupQuery()} {
		l := columns()
		want, _ := query.Check(q, l)
		first, err := query.Check(q, l)
		if err != nil || len(first) == 0 {
			t.Fatalf("Check: %v, %v", first, err)
		}
		kept := copied(q)
		_ = append(first, api.Col{Name: "more"})
		first[0] = api.Col{Name: "spoilt"}
		if !alikeQueries(q, kept) || !slices.Equal(l, columns()) {
			t.Error("writing into what came out changed what was handed in")
		}
		holdCheck(t, q, l, want, api.OK)
		second, _ := query.Check(q, l)
		for i := range l {
			l[i] = api.Col{Name: "spoilt"}
		}
		spoil(&q)
		if !slices.Equal(second, want) {
			t.Errorf("writing into what was handed in made %v of %v", second, want)
		}
	}
}

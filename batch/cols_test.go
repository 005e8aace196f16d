package batch_test

import (
	"math"
	"slices"
	"strings"
	"testing"

	"sluicebook/api"
)

// TestCols is of B1: a row of each for which Where comes to true, or is nothing, in the rows' order.
func TestCols(t *testing.T) {
	hold(t, "select a as p from s", "a int", "3 1 2 1", "0:3 0:1 0:2 0:1")
	hold(t, "select k as p, len(k) as n, a > 1 as q from s", "a int,k text", "1,'it''s' 2,''", "0:'it''s',4,false 0:'',0,true")
	hold(t, "select a as p from s where a > 1", "a int", "3 1 2 1 -9 2", "0:3 0:2 0:2")
	hold(t, "select a as p from s where b", "a int,b bool", "3,true 1,false 2,true", "0:3 0:2")
	hold(t, "select k as p from s where k <> 'b'", "k text", "'a' 'b' 'c' 'b'", "0:'a' 0:'c'")
	hold(t, "select 7 as p from s", "k text", "'a' 'b' 'c'", "0:7 0:7 0:7")
	hold(t, "select a as p, b as q, c as r, d as s, e as t, f as u from s", "a int,b int,c int,d int,e int,f int", "1,2,3,4,5,6", "0:1,2,3,4,5,6")
	hold(t, "select a as p from s where true", "a int", "5", "0:5")
}

// TestColsNone is of B1: no rows at all, and none for which Where comes to true.
func TestColsNone(t *testing.T) {
	hold(t, "select a as p from s", "a int", "", "")
	hold(t, "select a as p from s where a > 1", "a int", "", "")
	hold(t, "select a as p from s where a > 1", "a int", "1 0 -1", "")
	hold(t, "select a as p from s where false", "a int", "1 2 3", "")
}

// TestColsOver is of B1: Where, or then one of Cols, comes to ErrOver.
func TestColsOver(t *testing.T) {
	hold(t, "select 1 / a as p from s", "a int", "1 0 -1 0", "0:1 0:ErrOver 0:-1 0:ErrOver")
	hold(t, "select a as p from s where 1 / a > 0", "a int", "1 0 -1 0", "0:1 0:ErrOver 0:ErrOver")
	hold(t, "select a as p, 1 / a as q, a % a as r from s", "a int", "2 0", "0:2,0,0 0:ErrOver")
	hold(t, "select a as p, a as q, a + 1 as r from s", "a int", "9223372036854775807 9223372036854775806", "0:ErrOver 0:9223372036854775806,9223372036854775806,9223372036854775807")
	hold(t, "select a * a as p from s", "a int", "3037000500 3037000499 -9223372036854775808", "0:ErrOver 0:9223372030926249001 0:ErrOver")
	hold(t, "select a - 1 as p from s where - a < 0", "a int", "-9223372036854775808 1 0", "0:ErrOver 0:0")
	hold(t, "select 1 / a as p from s where 1 / a > 0", "a int", "0 1 2", "0:ErrOver 0:1")
}

// TestColsWhereFalse is of B1: a row whose Where is false tells nothing, whatever its Cols; and what is not needed is not reckoned.
func TestColsWhereFalse(t *testing.T) {
	hold(t, "select 1 / a as p from s where a > 0", "a int", "0 -1 1 0", "0:1")
	hold(t, "select 1 / a as p from s where false", "a int", "0 0", "")
	hold(t, "select 7 as p from s where a = 0 or 1 / a > 0", "a int", "0 1 2", "0:7 0:7")
	hold(t, "select 7 as p from s where a <> 0 and 1 / a > 0", "a int", "0 1 2", "0:7")
	hold(t, "select if(a = 0, 0, 1 / a) as p from s", "a int", "0 1", "0:0 0:1")
}

// TestColsNoTime is of B1: a query without a group does not look at `at`, whatever it is, or whether there is one.
func TestColsNoTime(t *testing.T) {
	hold(t, "select at as p from s", "at int", "9 -1 1000001 3 -9223372036854775808", "0:9 0:-1 0:1000001 0:3 0:-9223372036854775808")
	hold(t, "select at as p from s", "at bool", "true false", "0:true 0:false")
	hold(t, "select at as p from s", "at text", "'b' 'a'", "0:'b' 0:'a'")
	hold(t, "select 1 as p from s", "k text", "'b' 'a'", "0:1 0:1")
}

// TestColsWhereNothing is of B1: Where is nothing by its Op, whatever else stands there.
func TestColsWhereNothing(t *testing.T) {
	q := asked(t, "select a as p from s")
	q.Where = api.Expr{Name: "b", Val: words("x"), Args: []api.Expr{{Op: "nor"}}, At: 9}
	holdRows(t, q, heads(t, "a int"), table(t, "1 2"), "0:1 0:2")
	q = asked(t, "select count as n from s group by a window 5")
	q.Where = api.Expr{Args: make([]api.Expr, 300)}
	q.Aggs[0].Of = api.Expr{Name: "b", Args: []api.Expr{{Op: "nor"}}}
	holdRows(t, q, heads(t, "a int,at int"), table(t, "1,1 1,2"), "0:1,2")
}

// fault is something that is wrong with what Run is handed.
type fault struct {
	how  api.Errno
	done func(q *api.Query, l *[]api.Col, rows *[][]api.Val)
}

// faults are of B1, in its order; only of a group the second and third.
func faults() []fault {
	return []fault{
		{api.ErrClash, func(q *api.Query, _ *[]api.Col, _ *[][]api.Val) {
			if q.Size == 0 {
				q.Names[1] = q.Names[0]
			} else {
				q.Aggs[0].Name = q.Group[0]
			}
		}},
		{api.ErrNone, func(_ *api.Query, l *[]api.Col, _ *[][]api.Val) { (*l)[0].Name = "ta" }},
		{api.ErrType, func(_ *api.Query, l *[]api.Col, rows *[][]api.Val) {
			(*l)[0].Type = api.Bool
			for _, r := range *rows {
				r[0] = api.Val{Type: api.Bool}
			}
		}},
		{api.ErrFull, func(_ *api.Query, _ *[]api.Col, rows *[][]api.Val) {
			for len(*rows) <= 300 {
				*rows = append(*rows, slices.Clone((*rows)[0]))
			}
		}},
		{api.ErrSyntax, func(_ *api.Query, _ *[]api.Col, rows *[][]api.Val) { (*rows)[1][1] = words("\n") }},
	}
}

// TestErrorsInOrder is of B1 and P3: each error alone, and of several at once the one that is named first.
func TestErrorsInOrder(t *testing.T) {
	for _, text := range []string{"select k as p, 1 as q from s", "select count as n from s group by k window 5"} {
		for some := range 1 << 5 {
			q, l, rows := asked(t, text), heads(t, "at int,k text"), table(t, "3,'a' 4,'b' 5,'c'")
			want := api.OK
			for i, f := range faults() {
				if some&(1<<i) == 0 {
					continue
				}
				f.done(&q, &l, &rows)
				if ofGroup := i == 1 || i == 2; want == api.OK && (q.Size != 0 || !ofGroup) {
					want = f.how
				}
			}
			holdError(t, q, l, rows, want)
		}
	}
}

// TestErrorsOfQuery is of B1: chapter 12's Check, also where there are no rows.
func TestErrorsOfQuery(t *testing.T) {
	cols := heads(t, "at int,k text,b bool")
	rows := table(t, "1,'a',true")
	wrong := func(text string, l []api.Col, how api.Errno, change func(q *api.Query)) {
		t.Helper()
		q := asked(t, text)
		change(&q)
		holdError(t, q, l, nil, how)
		holdError(t, q, l, rows, how)
		holdError(t, q, l, make([][]api.Val, 301), how)
	}
	as := func(*api.Query) {}
	const plainText, groupText = "select k as p from s", "select count as n, sum(at) as m from s group by k window 6 slide 2"
	wrong(plainText, nil, api.ErrNone, as)
	wrong(groupText, make([]api.Col, 7), api.ErrFull, as)
	wrong(plainText, []api.Col{{Name: "at", Type: 1}, {Name: "at", Type: 1}}, api.ErrClash, as)
	wrong(plainText, []api.Col{{Name: "at", Type: 4}}, api.ErrRange, as)
	wrong(plainText, cols, api.ErrShape, func(q *api.Query) { q.Slide = 1 })
	wrong(plainText, cols, api.ErrShape, func(q *api.Query) { q.Names = nil })
	wrong(groupText, cols, api.ErrShape, func(q *api.Query) { q.Names = []string{"p"} })
	wrong(groupText, cols, api.ErrShape, func(q *api.Query) { q.Size = 0 })
	wrong(groupText, cols, api.ErrRange, func(q *api.Query) { q.Size = -1 })
	wrong(groupText, cols, api.ErrRange, func(q *api.Query) { q.Size = 1001 })
	wrong(groupText, cols, api.ErrRange, func(q *api.Query) { q.Slide = 0 })
	wrong(groupText, cols, api.ErrRange, func(q *api.Query) { q.Slide = 7 })
	wrong(groupText, cols, api.ErrRange, func(q *api.Query) { q.Size = 21 })
	wrong(plainText, cols, api.ErrNone, func(q *api.Query) { q.Cols, q.Names = nil, nil })
	wrong(groupText, cols, api.ErrNone, func(q *api.Query) { q.Group, q.Aggs = nil, nil })
	wrong(groupText, cols, api.ErrFull, func(q *api.Query) { q.Aggs = make([]api.Agg, 6) })
	wrong(plainText, cols, api.ErrNone, func(q *api.Query) { q.Cols[0].Name = "z" })
	wrong("select k as p from s where at", cols, api.ErrType, as)
	wrong("select k + 1 as p from s", cols, api.ErrType, as)
	wrong("select count as n from s group by z window 6", cols, api.ErrNone, as)
	wrong("select count as n from s group by k, k window 6", cols, api.ErrClash, as)
	wrong("select sum(k) as n from s group by k window 6", cols, api.ErrType, as)
	wrong(groupText, cols, api.ErrSyntax, func(q *api.Query) { q.Aggs[0].What = "all" })
	wrong(groupText, cols, api.ErrShape, func(q *api.Query) { q.Aggs[0].Of = q.Aggs[1].Of })
	wrong("select count as k from s group by k window 6", cols, api.ErrClash, as)
	wrong(plainText, cols, api.ErrSyntax, func(q *api.Query) { q.Names[0] = "P" })
	holdError(t, api.Query{}, cols, nil, api.ErrNone)
}

// TestErrorsOfTime is of B1: of a group there is a column `at`, and it is an Int.
func TestErrorsOfTime(t *testing.T) {
	q := asked(t, "select count as n from s group by k window 5")
	for _, c := range []struct {
		cols, row string
		how       api.Errno
	}{
		{"k int", "1", api.ErrNone},
		{"k int,a int,ta int,att int,t int", "1,1,1,1,1", api.ErrNone},
		{"k int,at bool", "1,true", api.ErrType},
		{"at text,k int", "'1',1", api.ErrType},
		{"at int,k int", "1,1", api.OK},
		{"k int,a text,b bool,c int,d int,at int", "1,'',true,1,1,1", api.OK},
	} {
		holdError(t, q, heads(t, c.cols), nil, c.how)
		holdError(t, q, heads(t, c.cols), table(t, c.row), c.how)
		holdError(t, q, heads(t, c.cols), table(t, c.row+" "+c.row), c.how)
		full := make([][]api.Val, 301)
		want := c.how
		if want == api.OK {
			want = api.ErrFull
		}
		holdError(t, q, heads(t, c.cols), full, want)
	}
}

// TestErrorsOfRows is of B1 and P3: chapter 2's Check, row by row, of several the first that has a fault; and no Outs, not of those ahead either.
func TestErrorsOfRows(t *testing.T) {
	l := heads(t, "at int,k text")
	good := []api.Val{number(1), words("a")}
	type one struct {
		row []api.Val
		how api.Errno
	}
	some := []one{
		{good, api.OK},
		{nil, api.ErrShape},
		{good[:1], api.ErrShape},
		{append(slices.Clone(good), number(1)), api.ErrShape},
		{[]api.Val{{Type: 0, N: 1}, words("a")}, api.ErrRange},
		{[]api.Val{number(1), words(strings.Repeat("a", 41))}, api.ErrFull},
		{[]api.Val{number(1), words("\x7f")}, api.ErrSyntax},
		{[]api.Val{{Type: api.Int, S: "a"}, words("a")}, api.ErrShape},
		{[]api.Val{number(1), number(1)}, api.ErrType},
		{[]api.Val{words("a"), number(1)}, api.ErrType},
		{[]api.Val{{Type: api.Bool, N: 2}, number(1)}, api.ErrRange},
	}
	for _, text := range []string{"select k as p from s", "select 1 / 0 as p from s where false", "select count as n from s group by k window 5", "select count as n from s where false group by k window 5"} {
		for _, a := range some {
			for _, b := range some {
				want := a.how
				if want == api.OK {
					want = b.how
				}
				holdError(t, asked(t, text), l, [][]api.Val{a.row, b.row}, want)
				holdError(t, asked(t, text), l, [][]api.Val{good, a.row, good, b.row, good}, want)
			}
		}
		late := [][]api.Val{{number(-1), words("a")}, {number(9), words("a")}, {number(8), words("a")}, {number(math.MaxInt), nothing()}}
		holdError(t, asked(t, text), l, late, api.ErrRange)
	}
}

// nothing is a value that is none.
func nothing() api.Val { return api.Val{} }

// TestMostRows is of B1: MaxRows rows, and one more, which is told ahead of whatever is wrong with them.
func TestMostRows(t *testing.T) {
	if api.MaxRows != 300 {
		t.Error("another number")
	}
	l := heads(t, "at int,k int")
	rows := func(n int) [][]api.Val {
		var rows [][]api.Val
		for i := range n {
			rows = append(rows, []api.Val{number(i), number(i % 40)})
		}
		return rows
	}
	for _, n := range []int{299, 300} {
		for text, want := range map[string]int{
			"select k as p from s":                                     n,
			"select k as p from s where false":                         0,
			"select count as n from s group by k window 1":             n,
			"select count as n from s where false group by k window 1": 0,
		} {
			if got := holdModel(t, asked(t, text), l, rows(n)); len(got) != want {
				t.Errorf("%s: %d of %d", text, len(got), want)
			}
		}
		holdRows(t, asked(t, "select count as n from s group by b window 1000"), heads(t, "at int,b int"), rows(n)[:1], "0:0,1")
	}
	for _, n := range []int{301, 302, 1000} {
		for _, text := range []string{"select k as p from s", "select k as p from s where false", "select count as n from s group by k window 1"} {
			holdError(t, asked(t, text), l, rows(n), api.ErrFull)
			holdError(t, asked(t, text), l, make([][]api.Val, n), api.ErrFull)
			wrong := rows(n)
			wrong[n-1][0] = nothing()
			holdError(t, asked(t, text), l, wrong, api.ErrFull)
			holdError(t, asked(t, text), l, wrong[n-300:], api.ErrRange)
		}
	}
}

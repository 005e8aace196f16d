package stream_test

import (
	"math/rand"
	"slices"
	"testing"

	"sluicebook/api"
	"sluicebook/plain"
	"sluicebook/query"
	"sluicebook/stream"
)

// holdNew holds what New tells. It is of P1 too: with an error there is no Stream, and without one it knows of no rows.
func holdNew(t *testing.T, q api.Query, l []api.Col, want api.Errno) {
	t.Helper()
	s, err := stream.New(q, l)
	if plain.Told(err) != want || (s == nil) != (want != api.OK) {
		t.Errorf("%s\nNew: got %v, %v; want %v", show(q, l), s, err, want)
	}
	if s == nil {
		return
	}
	if outs := s.Close(); s.Open() != 0 || s.Rows() != 0 || len(outs) > 0 {
		t.Errorf("%s\nof no rows: %d open, %d rows, %v", show(q, l), s.Open(), s.Rows(), outs)
	}
}

const plainText, groupText = "select k as p from s", "select count as n, sum(at) as m from s group by k window 6 slide 2"

// TestNewQuery is of S1: chapter 12's Check of the query over the columns.
func TestNewQuery(t *testing.T) {
	cols := heads(t, "at int,k text,b bool")
	as := func(*api.Query) {}
	for i, c := range []struct {
		text   string
		l      []api.Col
		how    api.Errno
		change func(q *api.Query)
	}{
		{plainText, cols, api.OK, as},
		{groupText, cols, api.OK, as},
		{plainText, nil, api.ErrNone, as},
		{groupText, make([]api.Col, 7), api.ErrFull, as},
		{plainText, []api.Col{{Name: "at", Type: 1}, {Name: "at", Type: 1}}, api.ErrClash, as},
		{plainText, []api.Col{{Name: "at", Type: 4}}, api.ErrRange, as},
		{plainText, []api.Col{{Name: "At", Type: 1}}, api.ErrSyntax, as},
		{plainText, cols, api.ErrShape, func(q *api.Query) { q.Slide = 1 }},
		{plainText, cols, api.ErrShape, func(q *api.Query) { q.Names = nil }},
		{groupText, cols, api.ErrShape, func(q *api.Query) { q.Names = []string{"p"} }},
		{groupText, cols, api.ErrShape, func(q *api.Query) { q.Size = 0 }},
		{groupText, cols, api.ErrRange, func(q *api.Query) { q.Size = -1 }},
		{groupText, cols, api.ErrRange, func(q *api.Query) { q.Size = 1001 }},
		{groupText, cols, api.ErrRange, func(q *api.Query) { q.Slide = 0 }},
		{groupText, cols, api.ErrRange, func(q *api.Query) { q.Slide = 7 }},
		{groupText, cols, api.OK, func(q *api.Query) { q.Size = 20 }},
		{groupText, cols, api.ErrRange, func(q *api.Query) { q.Size = 21 }},
		{plainText, cols, api.ErrNone, func(q *api.Query) { q.Cols, q.Names = nil, nil }},
		{groupText, cols, api.ErrNone, func(q *api.Query) { q.Group, q.Aggs = nil, nil }},
		{groupText, cols, api.ErrFull, func(q *api.Query) { q.Aggs = make([]api.Agg, 6) }},
		{plainText, cols, api.ErrNone, func(q *api.Query) { q.Cols[0].Name = "z" }},
		{"select k as p from s where at", cols, api.ErrType, as},
		{"select k + 1 as p from s", cols, api.ErrType, as},
		{"select count as n from s group by z window 6", cols, api.ErrNone, as},
		{"select count as n from s group by k, k window 6", cols, api.ErrClash, as},
		{"select sum(k) as n from s group by k window 6", cols, api.ErrType, as},
		{groupText, cols, api.ErrSyntax, func(q *api.Query) { q.Aggs[0].What = "all" }},
		{groupText, cols, api.ErrShape, func(q *api.Query) { q.Aggs[0].Of = q.Aggs[1].Of }},
		{"select count as k from s group by k window 6", cols, api.ErrClash, as},
		{plainText, cols, api.ErrSyntax, func(q *api.Query) { q.Names[0] = "P" }},
		{groupText, cols, api.OK, func(q *api.Query) { q.From = "\x00 nowhere" }},
	} {
		q := asked(t, c.text)
		c.change(&q)
		if _, err := query.Check(q, c.l); plain.Told(err) != c.how {
			t.Errorf("%d: Check tells %v, and %v is wanted", i, err, c.how)
		}
		holdNew(t, q, c.l, c.how)
	}
	holdNew(t, api.Query{}, nil, api.ErrNone)
	holdNew(t, api.Query{}, cols, api.ErrNone)
	holdNew(t, api.Query{Size: 1, Slide: 1}, cols, api.ErrNone)
}

// TestNewTime is of S1: of a group there is a column `at`, and it is an Int; without a group none is asked.
func TestNewTime(t *testing.T) {
	group := asked(t, "select count as n from s group by k window 5")
	cols := asked(t, "select k as p from s")
	for _, c := range []struct {
		cols string
		how  api.Errno
	}{
		{"k int", api.ErrNone},
		{"k int,a int,ta int,att int,t int", api.ErrNone},
		{"k int,at bool", api.ErrType},
		{"at text,k int", api.ErrType},
		{"at int,k int", api.OK},
		{"k text,at int", api.OK},
		{"k int,a text,b bool,c int,d int,at int", api.OK},
	} {
		holdNew(t, group, heads(t, c.cols), c.how)
		holdNew(t, cols, heads(t, c.cols), api.OK)
	}
}

// TestNewInOrder is of S1 and P3: of two errors at once the one that is named first, of a group and without one.
func TestNewInOrder(t *testing.T) {
	// Each, in this order, with what it is done by.
	faults := []struct {
		how  api.Errno
		done func(q *api.Query, l []api.Col)
	}{
		{api.ErrSyntax, func(_ *api.Query, l []api.Col) { l[1].Name = "" }},
		{api.ErrShape, func(q *api.Query, _ []api.Col) {
			if q.Size == 0 {
				q.Slide = 3
			} else {
				q.Names = []string{"p"}
			}
		}},
		{api.ErrFull, func(q *api.Query, _ []api.Col) { q.Where.Op, q.Where.Args = "not", make([]api.Expr, 300) }},
		{api.ErrClash, func(q *api.Query, _ []api.Col) {
			if q.Size == 0 {
				q.Names[1] = q.Names[0]
			} else {
				q.Aggs[0].Name = q.Group[0]
			}
		}},
		{api.ErrNone, func(_ *api.Query, l []api.Col) { l[0].Name = "ta" }},
		{api.ErrType, func(_ *api.Query, l []api.Col) { l[0].Type = api.Bool }},
	}
	for _, text := range []string{"select k as p, 1 as q from s", "select count as n from s group by k window 5"} {
		for some := range 1 << len(faults) {
			q, l := asked(t, text), heads(t, "at int,k text")
			want := api.OK
			for i, f := range faults {
				if some&(1<<i) == 0 {
					continue
				}
				f.done(&q, l)
				if ofGroup := i >= 4; want == api.OK && (q.Size != 0 || !ofGroup) {
					want = f.how
				}
			}
			holdNew(t, q, l, want)
		}
	}
}

// TestNewBroken is of S1 and P1: whatever query and columns, New tells what chapter 12's Check does, and then whether there is a time.
func TestNewBroken(t *testing.T) {
	c := chooser{Rand: rand.New(rand.NewSource(151))}
	met := map[api.Errno]int{}
	for range 10_000 {
		c.cols()
		q, _ := query.Parse(c.query())
		l := slices.Clone(c.l)
		for range c.Intn(3) {
			q = c.broken(q)
		}
		if c.Intn(3) == 0 {
			l[c.Intn(len(l))] = api.Col{Name: oneOf(c, "at", "a", "z", "", "A", "\x00"), Type: c.Intn(6) - 1}
		}
		_, err := query.Check(q, l)
		want := plain.Told(err)
		if want == api.OK && q.Size != 0 {
			want = timeFault(l)
		}
		holdNew(t, q, l, want)
		met[want]++
	}
	for _, how := range []api.Errno{api.OK, api.ErrRange, api.ErrSyntax, api.ErrShape, api.ErrFull, api.ErrNone, api.ErrClash, api.ErrType} {
		if met[how] < 20 {
			t.Errorf("%v came %d times", how, met[how])
		}
	}
}

func timeFault(l []api.Col) api.Errno {
	at := slices.IndexFunc(l, func(c api.Col) bool { return c.Name == "at" })
	switch {
	case at < 0:
		return api.ErrNone
	case l[at].Type != api.Int:
		return api.ErrType
	}
	return api.OK
}

// TestNewEndless is of P1: an expression that stands in itself is too deep, and one that is nothing is not looked into.
func TestNewEndless(t *testing.T) {
	e := api.Expr{Op: "not", Args: make([]api.Expr, 1)}
	e.Args[0] = e
	l := heads(t, "at int,k int")
	ends := func(q api.Query, want api.Errno) {
		t.Helper()
		s, err := stream.New(q, l)
		if plain.Told(err) != want || (s == nil) != (want != api.OK) {
			t.Errorf("%v, want %v", err, want)
		}
		if s == nil {
			return
		}
		if outs, err := s.Push(one(t, "3,1")); err != nil || len(outs)+s.Open() != 1 {
			t.Errorf("%v, %v", outs, err)
		}
	}
	q := asked(t, "select k as p from s")
	q.Where = e
	ends(q, api.ErrFull)
	q.Where.Op = ""
	ends(q, api.OK)
	q.Cols[0] = e
	ends(q, api.ErrFull)
	q = asked(t, "select count as n, least(k) as m from s group by k window 5")
	q.Aggs[0].Of.Args = e.Args
	ends(q, api.OK)
	q.Aggs[1].Of = e
	ends(q, api.ErrFull)
}

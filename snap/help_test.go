package snap_test

import (
	"fmt"
	"slices"
	"strconv"
	"strings"
	"testing"

	"sluicebook/api"
	"sluicebook/plain"
	"sluicebook/query"
	"sluicebook/row"
	"sluicebook/snap"
	"sluicebook/stream"
)

func number(n int) api.Val { return api.Val{Type: api.Int, N: n} }

func words(s string) api.Val { return api.Val{Type: api.Text, S: s} }

// asked reads a query that is to be one.
func asked(t *testing.T, text string) api.Query {
	t.Helper()
	q, fault := query.Parse(text)
	if fault.How != api.OK {
		t.Fatalf("%q: %v", text, fault)
	}
	return q
}

// heads reads columns that are to be some.
func heads(t *testing.T, text string) []api.Col {
	t.Helper()
	l, err := row.ParseSchema(text)
	if err != nil {
		t.Fatalf("%q: %v", text, err)
	}
	return l
}

// one reads a row that is to be one.
func one(t *testing.T, text string) []api.Val {
	t.Helper()
	r, err := row.Parse(text)
	if err != nil {
		t.Fatalf("%q: %v", text, err)
	}
	return r
}

// table reads rows, blanks between.
func table(t *testing.T, text string) [][]api.Val {
	t.Helper()
	var l [][]api.Val
	for _, w := range strings.Fields(text) {
		l = append(l, one(t, w))
	}
	return l
}

// shown writes Outs, blanks between: where the window begins, `:`, and the row, or the error's name.
func shown(t *testing.T, outs []api.Out) string {
	t.Helper()
	var l []string
	for _, o := range outs {
		text, err := row.Print(o.Row)
		if err != nil || (len(o.Row) == 0) != (o.Err != api.OK) {
			t.Errorf("no Out: %v", o)
		}
		if o.Err != api.OK {
			text = o.Err.Error()
		}
		l = append(l, strconv.Itoa(o.From)+":"+text)
	}
	return strings.Join(l, " ")
}

func sameOuts(a, b api.Out) bool {
	return a.Err == b.Err && a.From == b.From && slices.Equal(a.Row, b.Row)
}

// made gives a Stream that is to be one.
func made(t *testing.T, q api.Query, l []api.Col) *stream.Stream {
	t.Helper()
	s, err := stream.New(q, l)
	if err != nil || s == nil {
		t.Fatalf("%s: %v, %v", show(q, l), s, err)
	}
	return s
}

// show tells what was handed in, but no more than can be read.
func show(q api.Query, l []api.Col) string {
	text, err := query.Print(q)
	if err != nil {
		text = fmt.Sprintf("%.400s", fmt.Sprintf("%+v", q))
	}
	return fmt.Sprintf("%.1000s", fmt.Sprint(text, "\n", l))
}

// loaded gives what Load makes of what Save tells of a Stream, which is to be told twice the same, and of the loaded one too.
func loaded(t *testing.T, q api.Query, l []api.Col, s *stream.Stream) *stream.Stream {
	t.Helper()
	text := snap.Save(s)
	o, err := snap.Load(q, l, text)
	if err != nil || o == nil || o == s {
		t.Fatalf("%s\nLoad(%q): %v, %v", show(q, l), text, o, err)
	}
	for i, got := range []string{snap.Save(o), snap.Save(s), snap.Save(o)} {
		if got != text {
			t.Errorf("%s\nSave %d: got  %q\nwant %q", show(q, l), i, got, text)
		}
	}
	return o
}

// step is a call, and what is to come of it: a row that is Pushed, `nil`, `close` or `peek`; the Outs as shown, or an error's name; then Open and Rows.
type step struct {
	do, want   string
	open, rows int
}

// play does steps, and holds what comes of each: with one Stream, with one that is Saved and Loaded ahead of each step, with those that are so ahead of one of them, and with the model.
func play(t *testing.T, text, cols string, steps ...step) {
	t.Helper()
	q, l := asked(t, text), heads(t, cols)
	for cut := -2; cut <= len(steps); cut++ {
		s, m := made(t, q, l), newModel(q, l)
		for i, w := range steps {
			if i == cut || cut == -1 {
				s = loaded(t, q, l, s)
			}
			if got := done(t, peeked{s}, w.do); got != w {
				t.Errorf("%s\ncut %d, step %d: got  %v, want %v", show(q, l), cut, i, got, w)
			}
			if told := done(t, m, w.do); told != w {
				t.Errorf("%s\nstep %d: the model tells %v\nwanted is %v", show(q, l), i, told, w)
			}
		}
		loaded(t, q, l, s)
	}
}

// peeked is a Stream with a Peek, as the model has one.
type peeked struct{ *stream.Stream }

func (p peeked) Peek() []api.Out { return snap.Peek(p.Stream) }

// teller is such a Stream, or what it is held against.
type teller interface {
	Push(r []api.Val) ([]api.Out, error)
	Close() []api.Out
	Peek() []api.Out
	Open() int
	Rows() int
}

// done gives a step with what came of it.
func done(t *testing.T, s teller, do string) step {
	t.Helper()
	var outs []api.Out
	var err error
	switch do {
	case "close":
		outs = s.Close()
	case "peek":
		outs = s.Peek()
	case "nil":
		outs, err = s.Push(nil)
	default:
		outs, err = s.Push(one(t, do))
	}
	want := shown(t, outs)
	if err != nil {
		want += plain.Told(err).Error()
	}
	return step{do, want, s.Open(), s.Rows()}
}

// pair is a Stream, and what it is held against.
type pair struct {
	q api.Query
	l []api.Col
	s *stream.Stream
	m *model
}

func newPair(t *testing.T, q api.Query, l []api.Col) *pair {
	t.Helper()
	p := &pair{q, l, made(t, q, l), newModel(q, l)}
	p.hold(t)
	return p
}

// twin Saves and Loads, and gives the loaded one with a model of its own.
func (p *pair) twin(t *testing.T) *pair {
	t.Helper()
	o := &pair{p.q, p.l, loaded(t, p.q, p.l, p.s), p.m.twin()}
	o.hold(t)
	p.hold(t)
	return o
}

// hold holds Open, Rows and Peek, which are asked twice.
func (p *pair) hold(t *testing.T) {
	t.Helper()
	want := p.m.Peek()
	for range 2 {
		if got, want := [2]int{p.s.Open(), p.s.Rows()}, [2]int{p.m.Open(), p.m.Rows()}; got != want {
			t.Errorf("%s\nOpen and Rows are %v, want %v", show(p.q, p.l), got, want)
		}
		if got := snap.Peek(p.s); !slices.EqualFunc(got, want, sameOuts) {
			t.Errorf("%s\nPeek: got  %v\nwant %v", show(p.q, p.l), got, want)
		}
	}
}

// push Pushes to both, holds what comes, and gives it.
func (p *pair) push(t *testing.T, r []api.Val) []api.Out {
	t.Helper()
	got, err := p.s.Push(r)
	want, how := p.m.Push(r)
	if !slices.EqualFunc(got, want, sameOuts) || plain.Told(err) != plain.Told(how) {
		t.Errorf("%s\n%v: got  %v, %v\nwant %v, %v", show(p.q, p.l), r, got, err, want, how)
	}
	p.hold(t)
	return got
}

// close Closes both, holds what comes, and gives it.
func (p *pair) close(t *testing.T) []api.Out {
	t.Helper()
	got, want := p.s.Close(), p.m.Close()
	if !slices.EqualFunc(got, want, sameOuts) {
		t.Errorf("%s\nClose: got  %v\nwant %v", show(p.q, p.l), got, want)
	}
	p.hold(t)
	return got
}

// all Pushes all rows, and Closes.
func (p *pair) all(t *testing.T, rows [][]api.Val) []api.Out {
	t.Helper()
	var outs []api.Out
	for _, r := range rows {
		outs = append(outs, p.push(t, r)...)
	}
	return append(outs, p.close(t)...)
}

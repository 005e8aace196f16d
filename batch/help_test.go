package batch_test

import (
	"cmp"
	"fmt"
	"math/big"
	"slices"
	"strconv"
	"strings"
	"testing"

	"sluicebook/api"
	"sluicebook/batch"
	"sluicebook/eval"
	"sluicebook/plain"
	"sluicebook/query"
	"sluicebook/row"
)

func number(n int) api.Val { return api.Val{Type: api.Int, N: n} }

func words(s string) api.Val { return api.Val{Type: api.Text, S: s} }

// asked reads a query that is to be one.
func asked(t *testing.T, text string) api.Query {
	t.Helper()
	q, fault := query.Parse(text)
	if fault.How != api.OK {
		t.Fatalf("%q: %v", text, fault)
	}
	return q
}

// heads reads columns that are to be some.
func heads(t *testing.T, text string) []api.Col {
	t.Helper()
	l, err := row.ParseSchema(text)
	if err != nil {
		t.Fatalf("%q: %v", text, err)
	}
	return l
}

// table reads rows, blanks between.
func table(t *testing.T, text string) [][]api.Val {
	t.Helper()
	var l [][]api.Val
	for _, w := range strings.Fields(text) {
		r, err := row.Parse(w)
		if err != nil {
			t.Fatalf("%q: %v", w, err)
		}
		l = append(l, r)
	}
	return l
}

// shown writes Outs, blanks between: where the window begins, `:`, and the row, or the error's name.
func shown(t *testing.T, outs []api.Out) string {
	t.Helper()
	var l []string
	for _, o := range outs {
		text, err := row.Print(o.Row)
		if err != nil || (len(o.Row) == 0) != (o.Err != api.OK) {
			t.Errorf("no Out: %v", o)
		}
		if o.Err != api.OK {
			text = o.Err.Error()
		}
		l = append(l, strconv.Itoa(o.From)+":"+text)
	}
	return strings.Join(l, " ")
}

// hold holds what Run tells, as shown, against what is wanted, and the model too.
func hold(t *testing.T, q, cols, rows, want string) {
	t.Helper()
	holdRows(t, asked(t, q), heads(t, cols), table(t, rows), want)
}

func holdRows(t *testing.T, q api.Query, l []api.Col, rows [][]api.Val, want string) {
	t.Helper()
	got, err := batch.Run(q, l, rows)
	if text := shown(t, got); text != want || err != nil {
		t.Errorf("%s\ngot  %s, %v\nwant %s", show(q, l, rows), text, err, want)
	}
	model, how := modelled(q, l, rows)
	if text := shown(t, model); text != want || how != api.OK {
		t.Errorf("%s\nthe model tells %s, %v\nwanted is %s", show(q, l, rows), text, how, want)
	}
}

// holdError holds that Run tells an error and no Outs, and the model the same.
func holdError(t *testing.T, q api.Query, l []api.Col, rows [][]api.Val, want api.Errno) {
	t.Helper()
	got, err := batch.Run(q, l, rows)
	if plain.Told(err) != want || want != api.OK && len(got) > 0 {
		t.Errorf("%s\ngot  %v, %v\nwant %v", show(q, l, rows), got, err, want)
	}
	if _, how := modelled(q, l, rows); how != want {
		t.Errorf("%s\nthe model tells %v\nwanted is %v", show(q, l, rows), how, want)
	}
}

// holdModel holds whatever Run tells against the model.
func holdModel(t *testing.T, q api.Query, l []api.Col, rows [][]api.Val) []api.Out {
	t.Helper()
	got, err := batch.Run(q, l, rows)
	want, how := modelled(q, l, rows)
	if !slices.EqualFunc(got, want, sameOuts) || plain.Told(err) != how {
		t.Errorf("%s\ngot  %v, %v\nwant %v, %v", show(q, l, rows), got, err, want, how)
	}
	return got
}

func sameOuts(a, b api.Out) bool {
	return a.Err == b.Err && a.From == b.From && slices.Equal(a.Row, b.Row)
}

// show tells what was handed in, but no more than can be read.
func show(q api.Query, l []api.Col, rows [][]api.Val) string {
	text, err := query.Print(q)
	if err != nil {
		text = fmt.Sprintf("%.400s", fmt.Sprintf("%+v", q))
	}
	return fmt.Sprintf("%.2000s", fmt.Sprint(text, "\n", l, "\n", rows))
}

// modelled tells what Run is to tell, word by word as B1 and B2 do, from all rows, which it goes over again and again.
func modelled(q api.Query, l []api.Col, rows [][]api.Val) ([]api.Out, api.Errno) {
	if _, err := query.Check(q, l); err != nil {
		return nil, plain.Told(err)
	}
	time := slices.IndexFunc(l, func(c api.Col) bool { return c.Name == "at" })
	if q.Size != 0 && time < 0 {
		return nil, api.ErrNone
	}
	if q.Size != 0 && l[time].Type != api.Int {
		return nil, api.ErrType
	}
	if len(rows) > 300 {
		return nil, api.ErrFull
	}
	for _, r := range rows {
		if err := row.Check(l, r); err != nil {
			return nil, plain.Told(err)
		}
	}
	m := &model{q: q, l: l, time: time, told: -1}
	for _, r := range rows {
		if q.Size == 0 {
			m.alone(r)
		} else {
			m.grouped(r)
		}
	}
	m.tell(func(int) bool { return true })
	return m.outs, api.OK
}

// model keeps all rows that were Added.
type model struct {
	q     api.Query
	l     []api.Col
	time  int
	times []int // of all rows that had neither ErrRange nor ErrState
	told  int   // the last end of a window of which all was told
	kept  []added
	outs  []api.Out
}

type added struct {
	at        int
	key, vals []api.Val
}

func (m *model) say(o api.Out) { m.outs = append(m.outs, o) }

// passed tells what expressions come to, if Where comes to true.
func (m *model) passed(r []api.Val, l []api.Expr) ([]api.Val, bool, api.Errno) {
	if m.q.Where.Op != "" {
		v, err := eval.Eval(m.q.Where, m.l, r)
		if err != nil || v.N == 0 {
			return nil, false, plain.Told(err)
		}
	}
	vals := make([]api.Val, len(l))
	for i, e := range l {
		if e.Op == "" {
			continue
		}
		v, err := eval.Eval(e, m.l, r)
		if err != nil {
			return nil, false, plain.Told(err)
		}
		vals[i] = v
	}
	return vals, true, api.OK
}

func (m *model) alone(r []api.Val) {
	vals, ok, how := m.passed(r, m.q.Cols)
	if ok || how != api.OK {
		m.say(api.Out{Row: vals, Err: how})
	}
}

func (m *model) grouped(r []api.Val) {
	at := r[m.time].N
	if at < 0 || at > 1_000_000 {
		m.say(api.Out{Err: api.ErrRange})
		return
	}
	if slices.ContainsFunc(m.times, func(n int) bool { return at < n }) {
		m.say(api.Out{Err: api.ErrState})
		return
	}
	m.times = append(m.times, at)
	m.tell(func(end int) bool { return end <= at })
	m.told = at
	var ofs []api.Expr
	for _, a := range m.q.Aggs {
		ofs = append(ofs, a.Of)
	}
	vals, ok, how := m.passed(r, ofs)
	if how != api.OK {
		m.say(api.Out{Err: how})
	}
	if !ok {
		return
	}
	a := added{at: at, vals: vals}
	for _, name := range m.q.Group {
		a.key = append(a.key, r[slices.IndexFunc(m.l, func(c api.Col) bool { return c.Name == name })])
	}
	m.kept = append(m.kept, a)
	for begin := 0; begin <= at; begin += m.q.Slide {
		if at < begin+m.q.Size && len(m.keys(begin)) > 40 {
			m.kept = m.kept[:len(m.kept)-1]
			m.say(api.Out{Err: api.ErrFull})
			return
		}
	}
}

// keys are those of the groups of a window, in order.
func (m *model) keys(begin int) [][]api.Val {
	var l [][]api.Val
	for _, a := range m.kept {
		if begin <= a.at && a.at < begin+m.q.Size {
			l = append(l, a.key)
		}
	}
	slices.SortFunc(l, sideOf)
	return slices.CompactFunc(l, func(a, b []api.Val) bool { return sideOf(a, b) == 0 })
}

// sideOf tells which of two is ahead, whose values are of the same types.
func sideOf(a, b []api.Val) int {
	for i := range a {
		if side := cmp.Or(cmp.Compare(a[i].N, b[i].N), strings.Compare(a[i].S, b[i].S)); side != 0 {
			return side
		}
	}
	return 0
}

// tell tells of all windows that are done, and were not told.
func (m *model) tell(done func(end int) bool) {
	if m.q.Size == 0 || len(m.kept) == 0 {
		return
	}
	last := m.kept[len(m.kept)-1].at
	for begin := 0; begin <= last; begin += m.q.Slide {
		if end := begin + m.q.Size; m.told < end && done(end) {
			for _, key := range m.keys(begin) {
				o := m.ofGroup(begin, key)
				o.From = begin
				m.say(o)
			}
		}
	}
}

func (m *model) ofGroup(begin int, key []api.Val) api.Out {
	o := api.Out{Row: slices.Clone(key)}
	for i, g := range m.q.Aggs {
		var l []api.Val
		for _, a := range m.kept {
			if begin <= a.at && a.at < begin+m.q.Size && sideOf(a.key, key) == 0 {
				l = append(l, a.vals[i])
			}
		}
		v, ok := ofMany(g.What, l)
		if !ok {
			return api.Out{Err: api.ErrOver}
		}
		o.Row = append(o.Row, v)
	}
	return o
}

// ofMany is what an aggregate is of values; false: it goes over.
func ofMany(what string, l []api.Val) (api.Val, bool) {
	side := func(a, b api.Val) int { return sideOf([]api.Val{a}, []api.Val{b}) }
	switch what {
	case "count":
		return number(len(l)), true
	case "least":
		return slices.MinFunc(l, side), true
	case "most":
		return slices.MaxFunc(l, side), true
	}
	all := new(big.Int)
	for _, v := range l {
		all.Add(all, big.NewInt(int64(v.N)))
	}
	return number(int(all.Int64())), all.IsInt64()
}

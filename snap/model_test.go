package snap_test

import (
	"cmp"
	"math/big"
	"slices"
	"strings"

	"sluicebook/api"
	"sluicebook/eval"
	"sluicebook/plain"
	"sluicebook/row"
)

// model tells what a Stream is to tell, word by word as B1, B2, S1 and P1 do, from the rows that were Added, which it goes over again and again.
type model struct {
	q    api.Query
	l    []api.Col
	time int // the place of `at`
	rows int
	last int // of all rows that had neither ErrRange nor ErrState; -1: there was none
	kept []added
}

type added struct {
	at        int
	key, vals []api.Val
}

// newModel is of a query that is right, over columns that are.
func newModel(q api.Query, l []api.Col) *model {
	return &model{q: q, l: l, time: slices.IndexFunc(l, func(c api.Col) bool { return c.Name == "at" }), last: -1}
}

func (m *model) Push(r []api.Val) ([]api.Out, error) {
	if err := row.Check(m.l, r); err != nil {
		return nil, err
	}
	m.rows++
	if m.q.Size == 0 {
		return m.alone(r), nil
	}
	return m.grouped(r), nil
}

func (m *model) Close() []api.Out {
	outs := m.Peek()
	*m = *newModel(m.q, m.l)
	return outs
}

func (m *model) Open() int {
	n := 0
	m.begins(func(begin int) {
		if len(m.keys(begin)) > 0 {
			n++
		}
	})
	return n
}

func (m *model) Rows() int { return m.rows }

// Peek tells what Close would.
func (m *model) Peek() []api.Out { return m.tell(func(int) bool { return true }) }

// twin is one that goes on by itself.
func (m *model) twin() *model {
	o := *m
	o.kept = slices.Clone(m.kept)
	return &o
}

// passed tells what expressions come to, if Where comes to true.
func (m *model) passed(r []api.Val, l []api.Expr) ([]api.Val, bool, api.Errno) {
	if m.q.Where.Op != "" {
		v, err := eval.Eval(m.q.Where, m.l, r)
		if err != nil || v.N == 0 {
			return nil, false, plain.Told(err)
		}
	}
	vals := make([]api.Val, len(l))
	for i, e := range l {
		if e.Op == "" {
			continue
		}
		v, err := eval.Eval(e, m.l, r)
		if err != nil {
			return nil, false, plain.Told(err)
		}
		vals[i] = v
	}
	return vals, true, api.OK
}

func (m *model) alone(r []api.Val) []api.Out {
	vals, ok, how := m.passed(r, m.q.Cols)
	if ok || how != api.OK {
		return []api.Out{{Row: vals, Err: how}}
	}
	return nil
}

func (m *model) grouped(r []api.Val) []api.Out {
	at := r[m.time].N
	if at < 0 || at > 1_000_000 {
		return []api.Out{{Err: api.ErrRange}}
	}
	if at < m.last {
		return []api.Out{{Err: api.ErrState}}
	}
	outs := m.tell(func(end int) bool { return end <= at })
	m.last = at
	// A window that holds such a row was told.
	m.kept = slices.DeleteFunc(m.kept, func(a added) bool { return a.at+m.q.Size <= at })
	if how := m.add(at, r); how != api.OK {
		outs = append(outs, api.Out{Err: how})
	}
	return outs
}

func (m *model) add(at int, r []api.Val) api.Errno {
	var ofs []api.Expr
	for _, a := range m.q.Aggs {
		ofs = append(ofs, a.Of)
	}
	vals, ok, how := m.passed(r, ofs)
	if !ok {
		return how
	}
	a := added{at: at, vals: vals}
	for _, name := range m.q.Group {
		a.key = append(a.key, r[slices.IndexFunc(m.l, func(c api.Col) bool { return c.Name == name })])
	}
	m.kept = append(m.kept, a)
	full := false
	m.begins(func(begin int) { full = full || m.holds(begin, at) && len(m.keys(begin)) > 40 })
	if full {
		m.kept = m.kept[:len(m.kept)-1]
		return api.ErrFull
	}
	return api.OK
}

func (m *model) holds(begin, at int) bool { return begin <= at && at < begin+m.q.Size }

// begins goes over all windows that were not told and may hold a row that was Added.
func (m *model) begins(do func(begin int)) {
	if m.q.Size == 0 {
		return
	}
	// From about where one begins that ends above the last time.
	for begin := max(0, m.last-m.q.Size) / m.q.Slide * m.q.Slide; begin <= m.last; begin += m.q.Slide {
		if m.last < begin+m.q.Size {
			do(begin)
		}
	}
}

// keys are those of the groups of a window, in order.
func (m *model) keys(begin int) [][]api.Val {
	var l [][]api.Val
	for _, a := range m.kept {
		if m.holds(begin, a.at) {
			l = append(l, a.key)
		}
	}
	slices.SortFunc(l, sideOf)
	return slices.CompactFunc(l, func(a, b []api.Val) bool { return sideOf(a, b) == 0 })
}

// sideOf tells which of two is ahead, whose values are of the same types.
func sideOf(a, b []api.Val) int {
	for i := range a {
		if side := cmp.Or(cmp.Compare(a[i].N, b[i].N), strings.Compare(a[i].S, b[i].S)); side != 0 {
			return side
		}
	}
	return 0
}

// tell tells of all windows that are done, and were not told.
func (m *model) tell(done func(end int) bool) []api.Out {
	var outs []api.Out
	m.begins(func(begin int) {
		if !done(begin + m.q.Size) {
			return
		}
		for _, key := range m.keys(begin) {
			o := m.ofGroup(begin, key)
			o.From = begin
			outs = append(outs, o)
		}
	})
	return outs
}

func (m *model) ofGroup(begin int, key []api.Val) api.Out {
	o := api.Out{Row: slices.Clone(key)}
	for i, g := range m.q.Aggs {
		var l []api.Val
		for _, a := range m.kept {
			if m.holds(begin, a.at) && sideOf(a.key, key) == 0 {
				l = append(l, a.vals[i])
			}
		}
		v, ok := ofMany(g.What, l)
		if !ok {
			return api.Out{Err: api.ErrOver}
		}
		o.Row = append(o.Row, v)
	}
	return o
}

// ofMany is what an aggregate is of values; false: it goes over.
func ofMany(what string, l []api.Val) (api.Val, bool) {
	side := func(a, b api.Val) int { return sideOf([]api.Val{a}, []api.Val{b}) }
	switch what {
	case "count":
		return number(len(l)), true
	case "least":
		return slices.MinFunc(l, side), true
	case "most":
		return slices.MaxFunc(l, side), true
	}
	all := new(big.Int)
	for _, v := range l {
		all.Add(all, big.NewInt(int64(v.N)))
	}
	return number(int(all.Int64())), all.IsInt64()
}

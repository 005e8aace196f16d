package agg_test

import (
	"math"
	"math/big"
	"slices"
	"strings"
	"testing"

	"sluicebook/agg"
	"sluicebook/api"
	"sluicebook/plain"
)

func number(n int) api.Val { return api.Val{Type: api.Int, N: n} }

func truth(b bool) api.Val {
	if b {
		return api.Val{Type: api.Bool, N: 1}
	}
	return api.Val{Type: api.Bool}
}

func words(s string) api.Val { return api.Val{Type: api.Text, S: s} }

// numbers are rows of one Int each.
func numbers(l ...int) [][]api.Val {
	var rows [][]api.Val
	for _, n := range l {
		rows = append(rows, []api.Val{number(n)})
	}
	return rows
}

// aggs are those of such Whats, blanks between.
func aggs(whats string) []api.Agg {
	var l []api.Agg
	for _, w := range strings.Fields(whats) {
		l = append(l, api.Agg{What: w})
	}
	return l
}

// model tells what an Acc is to tell, from all of its rows, which it keeps.
type model struct {
	whats []string
	types []int
	rows  [][]api.Val
}

// wrongVal tells of a value what V1 does, word by word.
func wrongVal(v api.Val) api.Errno {
	if v.Type < 1 || v.Type > 3 || v.Type == 2 && v.N != 0 && v.N != 1 {
		return api.ErrRange
	}
	if v.Type != 3 {
		if v.S != "" {
			return api.ErrShape
		}
		return api.OK
	}
	if len(v.S) > 40 {
		return api.ErrFull
	}
	for _, b := range []byte(v.S) {
		if b < 32 || b > 126 {
			return api.ErrSyntax
		}
	}
	if v.N != 0 {
		return api.ErrShape
	}
	return api.OK
}

// made is a model, or why there is none.
func made(l []api.Agg, types []int) (*model, api.Errno) {
	if len(l) != len(types) {
		return nil, api.ErrShape
	}
	if len(l) > 6 {
		return nil, api.ErrFull
	}
	m := &model{types: slices.Clone(types)}
	for i, a := range l {
		if !slices.Contains([]string{"count", "sum", "least", "most"}, a.What) {
			return nil, api.ErrSyntax
		}
		if a.What != "count" && (types[i] < 1 || types[i] > 3) {
			return nil, api.ErrRange
		}
		if a.What == "sum" && types[i] != 1 {
			return nil, api.ErrType
		}
		m.whats = append(m.whats, a.What)
	}
	return m, api.OK
}

func (m *model) add(vals []api.Val) api.Errno {
	if len(vals) != len(m.whats) {
		return api.ErrShape
	}
	for i, v := range vals {
		if m.whats[i] == "count" {
			continue
		}
		if how := wrongVal(v); how != api.OK {
			return how
		}
		if v.Type != m.types[i] {
			return api.ErrType
		}
	}
	m.rows = append(m.rows, slices.Clone(vals))
	return api.OK
}

func (m *model) join(o *model) api.Errno {
	if len(m.whats) != len(o.whats) {
		return api.ErrShape
	}
	for i, w := range m.whats {
		if o.whats[i] != w || w != "count" && o.types[i] != m.types[i] {
			return api.ErrShape
		}
	}
	m.rows = slices.Concat(m.rows, o.rows)
	return api.OK
}

func (m *model) result() ([]api.Val, api.Errno) {
	var l []api.Val
	for i := range m.whats {
		v, how := m.resultAt(i)
		if how != api.OK {
			return nil, how
		}
		l = append(l, v)
	}
	return l, api.OK
}

func (m *model) resultAt(i int) (api.Val, api.Errno) {
	var l []api.Val
	for _, r := range m.rows {
		l = append(l, r[i])
	}
	switch m.whats[i] {
	case "count":
		return number(len(l)), api.OK
	case "sum":
		all := new(big.Int)
		for _, v := range l {
			all.Add(all, big.NewInt(int64(v.N)))
		}
		if !all.IsInt64() {
			return api.Val{}, api.ErrOver
		}
		return number(int(all.Int64())), api.OK
	}
	if len(l) == 0 {
		return api.Val{}, api.ErrNone
	}
	slices.SortFunc(l, func(a, b api.Val) int {
		if a.N < b.N || a.S < b.S {
			return -1
		}
		if a.N > b.N || a.S > b.S {
			return 1
		}
		return 0
	})
	if m.whats[i] == "least" {
		return l[0], api.OK
	}
	return l[len(l)-1], api.OK
}

// pair is an Acc, and what it is held against.
type pair struct {
	acc   *agg.Acc
	model *model
}

// begun gives a new one, of which there is to be no error.
func begun(t *testing.T, l []api.Agg, types []int) pair {
	t.Helper()
	a, err := agg.New(l, types)
	m, how := made(l, types)
	if err != nil || how != api.OK {
		t.Fatalf("New(%v, %v): %v; want %v", l, types, err, how)
	}
	return pair{a, m}
}

// of is one of rows that have no error.
func of(t *testing.T, whats string, types []int, rows [][]api.Val) pair {
	t.Helper()
	p := begun(t, aggs(whats), types)
	for _, r := range rows {
		p.add(t, r)
	}
	return p
}

// add Adds to both what is to have no error.
func (p pair) add(t *testing.T, vals []api.Val) {
	t.Helper()
	if how := p.tryAdd(t, vals); how != api.OK {
		t.Fatalf("Add(%v): %v", vals, how)
	}
}

// tryAdd Adds to both, and holds what is told of it.
func (p pair) tryAdd(t *testing.T, vals []api.Val) api.Errno {
	t.Helper()
	got, want := plain.Told(p.acc.Add(vals)), p.model.add(vals)
	if got != want {
		t.Errorf("Add(%v): got %v, want %v", vals, got, want)
	}
	p.hold(t)
	return want
}

// join Joins both, and holds what is told of it, of either.
func (p pair) join(t *testing.T, o pair) api.Errno {
	t.Helper()
	got, want := plain.Told(p.acc.Join(o.acc)), p.model.join(o.model)
	if got != want {
		t.Errorf("Join: got %v, want %v", got, want)
	}
	p.hold(t)
	o.hold(t)
	return want
}

// hold holds Count and Result, which is asked twice, against the model's.
func (p pair) hold(t *testing.T) {
	t.Helper()
	want, how := p.model.result()
	for range 2 {
		holdResult(t, p.acc, want, how, len(p.model.rows))
	}
}

// holdResult holds Count and Result against what is wanted. It is of P1 too: with an error the wanted list is empty.
func holdResult(t *testing.T, a *agg.Acc, want []api.Val, how api.Errno, rows int) {
	t.Helper()
	got, err := a.Result()
	if !slices.Equal(got, want) || plain.Told(err) != how {
		t.Errorf("Result: got %v, %v; want %v, %v", got, err, want, how)
	}
	if a.Count() != rows {
		t.Errorf("Count: got %d, want %d", a.Count(), rows)
	}
}

// holdNew holds what New tells, and that there is an Acc without an error, and none with one.
func holdNew(t *testing.T, l []api.Agg, types []int, want api.Errno) {
	t.Helper()
	a, err := agg.New(l, types)
	if plain.Told(err) != want || (a == nil) != (err != nil) {
		t.Errorf("New(%v, %v): got %v, %v; want %v", l, types, a, err, want)
	}
	if _, how := made(l, types); how != want {
		t.Errorf("New(%v, %v): the model tells %v, and %v is wanted", l, types, how, want)
	}
}

// far are numbers at the edges, and near to them.
func far() []int {
	return []int{math.MinInt, math.MinInt + 1, math.MinInt / 2, -1 << 32, -2, -1, 0, 1, 2, 1 << 32, math.MaxInt/2 + 1, math.MaxInt - 1, math.MaxInt}
}

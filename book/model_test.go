package book_test

import (
	"maps"
	"regexp"
	"slices"
	"strconv"
	"testing"

	"sluicebook/api"
	"sluicebook/batch"
	"sluicebook/plain"
	"sluicebook/query"
	"sluicebook/row"
	"sluicebook/snap"
	"sluicebook/stream"
)

// model is a Book in another way: it keeps what was said and counts, and goes over all of that whenever it is asked.
type model struct {
	log []entry
}

// entry is a command that counts, and what was answered.
type entry struct {
	c    api.Cmd
	said string
}

func (e entry) is(what int) bool { return e.c.What == what && e.said[0] != 'E' }

func keys[T any](m map[string]T) []string { return slices.Sorted(maps.Keys(m)) }

var isName = regexp.MustCompile(`\A[a-z]{1,8}\z`)

// do gives the answer to a command.
func (m *model) do(t *testing.T, c api.Cmd) string {
	t.Helper()
	outside := func(n, least, most int) bool { return n < least || n > most }
	switch {
	case outside(c.What, 1, 4), outside(c.Session, 0, 1_000_000), outside(c.Seq, 1, 1_000_000):
		return "ErrRange"
	case !isName.MatchString(c.Name):
		return "ErrSyntax"
	}
	for _, e := range slices.Backward(m.log) {
		switch {
		case e.c.Session != c.Session:
			continue
		case e.c.Seq == c.Seq:
			return e.said
		case e.c.Seq > c.Seq:
			return "ErrState"
		}
		break
	}
	c.Row = slices.Clone(c.Row)
	said := m.answer(t, c)
	m.log = append(m.log, entry{c, said})
	return said
}

// answer is the first error that holds, or else the number.
func (m *model) answer(t *testing.T, c api.Cmd) string {
	t.Helper()
	var hows []api.Errno
	n := 0
	switch c.What {
	case api.Create:
		_, err := row.ParseSchema(c.Text)
		hows = append(hows, plain.Told(err), room(m.streams(), c.Name))
	case api.Append:
		n = 1 + len(m.rows(c.Name, 0))
		hows = append(hows, m.rowError(c.Name, c.Row))
	case api.Register:
		q, fault := query.Parse(c.Text)
		hows = append(hows, fault.How, m.queryError(q), room(m.queries(), c.Name))
	case api.Remove:
		hows = append(hows, none(m.queries(), c.Name))
	}
	for _, how := range hows {
		if how != api.OK {
			return how.Error()
		}
	}
	return strconv.Itoa(n)
}

func (m *model) rowError(name string, r []api.Val) api.Errno {
	l, ok := m.streams()[name]
	switch err := row.Check(l, r); {
	case !ok:
		return api.ErrNone
	case err != nil:
		return plain.Told(err)
	case len(m.rows(name, 0)) >= 300:
		return api.ErrFull
	}
	return api.OK
}

func (m *model) queryError(q api.Query) api.Errno {
	l, ok := m.streams()[q.From]
	if !ok {
		return api.ErrNone
	}
	_, err := stream.New(q, l)
	return plain.Told(err)
}

// room tells why one of that name cannot come to those.
func room[T any](m map[string]T, name string) api.Errno {
	switch {
	case none(m, name) == api.OK:
		return api.ErrClash
	case len(m) >= 8:
		return api.ErrFull
	}
	return api.OK
}

func none[T any](m map[string]T, name string) api.Errno {
	if _, ok := m[name]; !ok {
		return api.ErrNone
	}
	return api.OK
}

// streams are the columns of each.
func (m *model) streams() map[string][]api.Col {
	all := map[string][]api.Col{}
	for _, e := range m.log {
		if e.is(api.Create) {
			all[e.c.Name], _ = row.ParseSchema(e.c.Text)
		}
	}
	return all
}

// queries are where each was registered.
func (m *model) queries() map[string]int {
	all := map[string]int{}
	for i, e := range m.log {
		switch {
		case e.is(api.Register):
			all[e.c.Name] = i
		case e.is(api.Remove):
			delete(all, e.c.Name)
		}
	}
	return all
}

// rows are those of a stream that came at that place or behind it.
func (m *model) rows(name string, from int) [][]api.Val {
	var rows [][]api.Val
	for _, e := range m.log[from:] {
		if e.is(api.Append) && e.c.Name == name {
			rows = append(rows, e.c.Row)
		}
	}
	return rows
}

func (m *model) rowsOf(name string) string {
	if how := none(m.streams(), name); how != api.OK {
		return how.Error()
	}
	return strconv.Itoa(len(m.rows(name, 0)))
}

// outs are what a Stream of the query tells of the rows behind its registering; with what that would tell at its end they are what comes of all of those rows at once.
func (m *model) outs(t *testing.T, name string) ([]api.Out, api.Errno) {
	t.Helper()
	if how := none(m.queries(), name); how != api.OK {
		return nil, how
	}
	at := m.queries()[name]
	q, _ := query.Parse(m.log[at].c.Text)
	l, rows := m.streams()[q.From], m.rows(q.From, at)
	s, err := stream.New(q, l)
	if err != nil {
		t.Fatalf("%+v: %v", q, err)
	}
	var outs []api.Out
	for _, r := range rows {
		more, err := s.Push(r)
		if err != nil {
			t.Fatalf("%+v: %v: %v", q, r, err)
		}
		outs = append(outs, more...)
	}
	all, err := batch.Run(q, l, rows)
	if err != nil || !slices.EqualFunc(all, slices.Concat(outs, snap.Peek(s)), sameOuts) {
		t.Errorf("%+v: %v, %v, want %v and %v", q, all, err, outs, snap.Peek(s))
	}
	return outs, api.OK
}

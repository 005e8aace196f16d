package book

import (
	"slices"
	"strings"

	"sluicebook/api"
	"sluicebook/val"
)

// Outs of a query.
func (b *Book) Outs(name string, from int) ([]api.Out, error) {
	q, ok := b.queries[name]
	if !ok {
		return nil, api.ErrNone
	}
	if from < 0 || from > len(q.told) {
		return nil, api.ErrRange
	}
	return freshOuts(q.told[from:]), nil
}

// freshOuts may be written into, and what is kept stays as it is.
func freshOuts(l []api.Out) []api.Out {
	var fresh []api.Out
	for _, o := range l {
		o.Row = val.FreshAll(o.Row)
		fresh = append(fresh, o)
	}
	return fresh
}

// Rows of a stream.
func (b *Book) Rows(name string) (int, error) {
	s, ok := b.streams[name]
	if !ok {
		return 0, api.ErrNone
	}
	return s.rows, nil
}

// Names of streams, and of queries.
func (b *Book) Names() ([]string, []string) {
	return rising(b.streams), rising(b.queries)
}

func rising[T any](m map[string]T) []string {
	var names []string
	for name := range m {
		names = append(names, strings.Clone(name))
	}
	slices.Sort(names)
	return names
}

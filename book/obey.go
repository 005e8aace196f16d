package book

import (
	"strings"

	"sluicebook/api"
	"sluicebook/query"
	"sluicebook/row"
	"sluicebook/stream"
)

// source is a stream of the Book. Its rows are not kept, as a query is told of those alone that come behind it.
type source struct {
	cols []api.Col
	rows int
}

// asked is a query of the Book: of which stream it is, and what it has told.
type asked struct {
	of   *source
	by   *stream.Stream
	told []api.Out
}

func (b *Book) create(name, schema string) error {
	cols, err := row.ParseSchema(schema)
	if err != nil {
		return err
	}
	return lay(b.streams, name, &source{cols: cols})
}

// add is of a row to a stream, and gives its number.
func (b *Book) add(name string, r []api.Val) (int, error) {
	s, ok := b.streams[name]
	if !ok {
		return 0, api.ErrNone
	}
	if err := row.Check(s.cols, r); err != nil {
		return 0, err
	}
	if s.rows == api.MaxRows {
		return 0, api.ErrFull
	}
	for _, q := range b.queries {
		if q.of == s {
			outs, _ := q.by.Push(r) // the row was checked, so it is right
			q.told = append(q.told, outs...)
		}
	}
	s.rows++
	return s.rows, nil
}

func (b *Book) register(name, text string) error {
	q, fault := query.Parse(text)
	if fault.How != api.OK {
		return fault.How
	}
	of, ok := b.streams[q.From]
	if !ok {
		return api.ErrNone
	}
	by, err := stream.New(q, of.cols)
	if err != nil {
		return err
	}
	return lay(b.queries, name, &asked{of: of, by: by})
}

func (b *Book) remove(name string) error {
	if _, ok := b.queries[name]; !ok {
		return api.ErrNone
	}
	delete(b.queries, name)
	return nil
}

// lay puts a thing where there is none of that name as yet, and room for one more. The name is the caller's, so what is kept is a copy.
func lay[T any](m map[string]*T, name string, thing *T) error {
	if _, ok := m[name]; ok {
		return api.ErrClash
	}
	if len(m) == api.MaxNames {
		return api.ErrFull
	}
	m[strings.Clone(name)] = thing
	return nil
}

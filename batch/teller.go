package batch

import (
	"sluicebook/api"
	"sluicebook/query"
	"sluicebook/row"
)

// Teller goes over rows, one behind the other, however many there are. Run is of it, and so is whoever has not all rows at once: what they tell must be the same.
type Teller struct {
	cols   []api.Col
	push   func(r []api.Val) []api.Out // of a row that is right
	groups *grouping                   // of a query without a group one to which no row comes
}

// NewTeller makes one, of which no row has come.
func NewTeller(q api.Query, l []api.Col) (*Teller, error) {
	comes, err := query.Check(q, l)
	if err != nil {
		return nil, err
	}
	if q.Size == 0 {
		return ofCols(newSieve(q.Where, q.Cols, l)), nil
	}
	at, err := timePlace(l)
	if err != nil {
		return nil, err
	}
	return ofGroups(newGrouping(q, l, comes, at)), nil
}

// Push tells what comes of one row more.
func (t *Teller) Push(r []api.Val) ([]api.Out, error) {
	if err := row.Check(t.cols, r); err != nil {
		return nil, err
	}
	return t.push(r), nil
}

// End tells what comes when there are no more rows; then it is as a new one.
func (t *Teller) End() []api.Out { return t.groups.end() }

// Peek tells what End would, and changes nothing.
func (t *Teller) Peek() []api.Out { return outsOf(t.groups.open) }

// Open tells how many windows have rows and were not told.
func (t *Teller) Open() int { return len(t.groups.open) }

// ofCols tells of each row by itself, so that nothing is left at the end.
func ofCols(s sieve) *Teller {
	push := func(r []api.Val) []api.Out {
		vals, ok, err := s.take(r)
		switch {
		case err != nil:
			return []api.Out{fault(err)}
		case ok:
			return []api.Out{{Row: vals}}
		}
		return nil
	}
	return &Teller{cols: s.cols, push: push, groups: &grouping{}}
}

func ofGroups(g *grouping) *Teller {
	return &Teller{cols: g.sieve.cols, push: g.push, groups: g}
}

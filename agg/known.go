package agg

import (
	"slices"

	"sluicebook/api"
	"sluicebook/query"
	"sluicebook/val"
)

// Known is what an Acc knows of its rows: how many there were, and what each aggregate found.
type Known struct {
	Rows  int
	Parts []Found
}

// Found is what one aggregate knows beside how many rows there were: of sum its words, the lowest first; of least and most the value that it tells; of count nothing.
type Found struct {
	Sum  []uint64
	Best api.Val
}

// Known gives what a new one can Learn, to go on as this one would.
func (a *Acc) Known() Known {
	k := Known{Rows: a.rows}
	for _, p := range a.parts {
		k.Parts = append(k.Parts, Found{Sum: slices.Clone(p.sum), Best: val.Fresh(p.best)})
	}
	return k
}

// Learn makes it know just that, and forget what it knew. ErrShape: its aggregates do not find such things; then nothing is changed.
func (a *Acc) Learn(k Known) error {
	mayFind := func(p part, f Found) bool { return p.mayFind(f, k.Rows) }
	if k.Rows < 0 || !slices.EqualFunc(a.parts, k.Parts, mayFind) {
		return api.ErrShape
	}
	a.rows = k.Rows
	for i, f := range k.Parts {
		a.parts[i].sum = slices.Clone(f.Sum)
		a.parts[i].best = val.Fresh(f.Best)
	}
	return nil
}

// mayFind tells whether that is of the form of what it finds of so many rows.
func (p *part) mayFind(f Found, rows int) bool {
	sums, tells := len(f.Sum) > 0, f.Best != api.Val{}
	switch p.what {
	case query.Sum:
		return !tells && sums == (rows > 0) && len(total(f.Sum).short()) == len(f.Sum)
	case query.Least, query.Most:
		return !sums && tells == (rows > 0) && (!tells || p.check(f.Best) == nil)
	}
	return !sums && !tells
}

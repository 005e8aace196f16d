package agg

import (
	"strings"

	"sluicebook/api"
	"sluicebook/query"
	"sluicebook/val"
)

// part is what one aggregate knows of all rows.
type part struct {
	what string
	kind int     // the type of its values; of count 0, as there none counts
	sum  total   // of sum
	best api.Val // of least and most; without a Type: there were no rows
}

func newPart(what string, kind int) (part, error) {
	switch {
	case !query.IsAgg(what):
		return part{}, api.ErrSyntax
	case what == query.Count:
		return part{what: query.Count}, nil
	case !val.IsType(kind):
		return part{}, api.ErrRange
	case what == query.Sum && kind != api.Int:
		return part{}, api.ErrType
	}
	return part{what: strings.Clone(what), kind: kind}, nil
}

// alike tells whether two are of the same values, whatever they know of them.
func alike(p, o part) bool { return p.what == o.what && p.kind == o.kind }

// check tells what is wrong with a value.
func (p *part) check(v api.Val) error {
	if p.what == query.Count {
		return nil
	}
	if err := val.Check(v); err != nil {
		return err
	}
	if v.Type != p.kind {
		return api.ErrType
	}
	return nil
}

// ofOne is a part like this one that knows of one value alone.
func (p *part) ofOne(v api.Val) part {
	one := part{what: p.what, kind: p.kind}
	switch p.what {
	case query.Sum:
		one.sum = total{uint64(v.N)}
	case query.Least, query.Most:
		one.best = val.Fresh(v)
	}
	return one
}

// take adds what another one knows.
func (p *part) take(o part) {
	switch p.what {
	case query.Sum:
		p.sum = p.sum.plus(o.sum)
	case query.Least, query.Most:
		if o.isAhead(p) {
			p.best = o.best
		}
	}
}

// isAhead tells whether what this one found is rather told than what another one did.
func (p *part) isAhead(o *part) bool {
	if p.isEmpty() || o.isEmpty() {
		return !p.isEmpty()
	}
	side, _ := val.Compare(p.best, o.best) // both were checked, and are of one type
	if p.what == query.Least {
		return side < 0
	}
	return side > 0
}

// isEmpty tells of least and most whether there were no rows.
func (p *part) isEmpty() bool { return p.best.Type == 0 }

// result is what is told of so many rows.
func (p *part) result(rows int) (api.Val, error) {
	switch p.what {
	case query.Count:
		return api.Val{Type: api.Int, N: rows}, nil
	case query.Sum:
		n, err := p.sum.number()
		return api.Val{Type: api.Int, N: n}, err
	}
	if p.isEmpty() {
		return api.Val{}, api.ErrNone
	}
	return val.Fresh(p.best), nil
}

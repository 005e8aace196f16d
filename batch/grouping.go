package batch

import (
	"cmp"
	"slices"
	"strings"

	"sluicebook/api"
	"sluicebook/row"
	"sluicebook/window"
)

// timeName is the column that tells in which windows a row is.
const timeName = "at"

// timePlace is where that column stands.
func timePlace(l []api.Col) (int, error) {
	at, err := row.Find(l, timeName)
	if err != nil {
		return 0, err
	}
	if l[at].Type != api.Int {
		return 0, api.ErrType
	}
	return at, nil
}

// grouping puts rows to their groups, in all windows that hold them, and tells of a window when no row can come to it any more.
type grouping struct {
	sieve       sieve
	at          int       // the place of the time in a row
	places      []int     // those of the group's columns
	aggs        []api.Agg // their What alone: what they are of stands in the sieve
	types       []int     // those of aggs
	size, slide int
	last        int     // the time of the last row that had its time in order
	open        []*span // those that have rows and were not told, rising
}

func newGrouping(q api.Query, l, comes []api.Col, at int) *grouping {
	g := &grouping{at: at, size: q.Size, slide: q.Slide}
	var ofs []api.Expr
	for _, a := range q.Aggs {
		ofs = append(ofs, a.Of)
		g.aggs = append(g.aggs, api.Agg{What: strings.Clone(a.What)})
	}
	g.sieve = newSieve(q.Where, ofs, l)
	for _, name := range q.Group {
		place, _ := row.Find(l, name) // the query was checked, so there is one
		g.places = append(g.places, place)
	}
	for _, c := range comes[len(q.Group):] {
		g.types = append(g.types, c.Type)
	}
	return g
}

func (g *grouping) push(r []api.Val) []api.Out {
	at := r[g.at].N
	starts, err := window.Starts(at, g.size, g.slide)
	if err != nil {
		return []api.Out{fault(err)}
	}
	if at < g.last {
		return []api.Out{fault(api.ErrState)}
	}
	g.last = at
	outs := g.tell(func(s *span) bool { return s.from+g.size <= at })
	if err := g.add(starts, r); err != nil {
		outs = append(outs, fault(err))
	}
	return outs
}

func (g *grouping) end() []api.Out {
	g.last = 0
	return g.tell(func(*span) bool { return true })
}

// tell gives what comes of the first windows, as far as they are done, and forgets them.
func (g *grouping) tell(done func(s *span) bool) []api.Out {
	n := 0
	for n < len(g.open) && done(g.open[n]) {
		n++
	}
	outs := outsOf(g.open[:n])
	g.open = slices.Delete(g.open, 0, n)
	return outs
}

// add puts a row, if it is let through, to its group in all of the windows, or in none of them.
func (g *grouping) add(starts []int, r []api.Val) error {
	vals, ok, err := g.sieve.take(r)
	if err != nil || !ok {
		return err
	}
	key := g.key(r)
	full := func(from int) bool {
		i, ok := g.find(from)
		return ok && !g.open[i].hasRoom(key)
	}
	if slices.ContainsFunc(starts, full) {
		return api.ErrFull
	}
	for _, from := range starts {
		if err := g.put(from, key, vals); err != nil {
			return err
		}
	}
	return nil
}

// key gives the values of the group's columns.
func (g *grouping) key(r []api.Val) []api.Val {
	var key []api.Val
	for _, place := range g.places {
		key = append(key, r[place])
	}
	return key
}

// find is where the window stands that begins there, or would stand; false: it has no rows as yet.
func (g *grouping) find(from int) (int, bool) {
	return slices.BinarySearchFunc(g.open, from, func(s *span, from int) int { return cmp.Compare(s.from, from) })
}

// put adds to one window, which is opened, if it has no rows as yet.
func (g *grouping) put(from int, key, vals []api.Val) error {
	i, ok := g.find(from)
	if !ok {
		g.open = slices.Insert(g.open, i, &span{from: from})
	}
	own, err := g.open[i].groupOf(key, g.aggs, g.types)
	if err != nil {
		return err
	}
	return own.acc.Add(vals)
}

package query

import (
	"strconv"

	"sluicebook/api"
	"sluicebook/tree"
)

// reader reads a query from the left into q. Where a reading is false, the first token that cannot stand there is still ahead.
type reader struct {
	*tree.Reader
	q api.Query
}

// Each of these readings is of one part of the grammar, and what stands in it follows from the left.

func (r *reader) query() bool {
	return r.just("select") && r.items() && r.just("from") && r.name(&r.q.From) && r.where() && r.group()
}

// items are all of the one kind of which the first is.
func (r *reader) items() bool {
	if r.Next(beginsAgg) {
		return r.several(r.agg)
	}
	return r.several(r.col)
}

func beginsAgg(t api.Token) bool { return IsAgg(t.Text) }

func (r *reader) col() bool {
	var e api.Expr
	var name string
	ok := r.expression(&e) && r.as(&name)
	r.q.Cols = append(r.q.Cols, e)
	r.q.Names = append(r.q.Names, name)
	return ok
}

func (r *reader) agg() bool {
	t, ok := r.Take(beginsAgg)
	if !ok {
		return false
	}
	a := api.Agg{What: t.Text}
	ok = (a.What == Count || r.bracketed(&a.Of)) && r.as(&a.Name)
	r.q.Aggs = append(r.q.Aggs, a)
	return ok
}

func (r *reader) as(name *string) bool { return r.just("as") && r.name(name) }

func (r *reader) where() bool { return !r.just("where") || r.expression(&r.q.Where) }

// group follows just the items of one: behind others whatever is ahead cannot stand there.
func (r *reader) group() bool {
	if len(r.q.Aggs) == 0 {
		return true
	}
	return r.just("group") && r.just("by") && r.several(r.groupCol) && r.just("window") && r.number(&r.q.Size) && r.slide()
}

func (r *reader) groupCol() bool {
	var name string
	ok := r.name(&name)
	r.q.Group = append(r.q.Group, name)
	return ok
}

func (r *reader) slide() bool {
	if !r.just("slide") {
		r.q.Slide = r.q.Size
		return true
	}
	return r.number(&r.q.Slide)
}

// several reads parts from the left, as long as a comma stands behind.
func (r *reader) several(part func() bool) bool {
	for part() {
		if !r.just(",") {
			return true
		}
	}
	return false
}

// just reads a sign or a word of the language.
func (r *reader) just(text string) bool {
	_, ok := r.Take(tree.OneOf(text))
	return ok
}

func (r *reader) expression(e *api.Expr) (ok bool) {
	*e, ok = r.Expression()
	return ok
}

func (r *reader) bracketed(e *api.Expr) bool { return r.just("(") && r.expression(e) && r.just(")") }

func (r *reader) name(name *string) bool {
	t, ok := r.Take(func(t api.Token) bool { return tree.IsName(t.Text) })
	*name = t.Text
	return ok
}

func (r *reader) number(n *int) bool {
	t, ok := r.Take(func(t api.Token) bool { return t.Kind == api.Number })
	// The tokens of a text have no Number that is too great; and of none it is 0.
	*n, _ = strconv.Atoi(t.Text)
	return ok
}

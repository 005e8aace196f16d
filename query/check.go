package query

import (
	"slices"
	"strings"

	"sluicebook/api"
	"sluicebook/kind"
	"sluicebook/row"
	"sluicebook/window"
)

// Check gives the columns of what comes of a query over columns, or tells what is wrong with it.
func Check(q api.Query, l []api.Col) ([]api.Col, error) {
	if err := row.Schema(l); err != nil {
		return nil, err
	}
	if err := checkForm(q); err != nil {
		return nil, err
	}
	if err := checkWhere(q.Where, l); err != nil {
		return nil, err
	}
	comes, err := columns(q, l)
	if err != nil {
		return nil, err
	}
	if err := row.Schema(comes); err != nil {
		return nil, err
	}
	return comes, nil
}

// checkForm asks what needs no look at the expressions, nor at the columns over which they are.
func checkForm(q api.Query) error {
	if !goTogether(q) {
		return api.ErrShape
	}
	if q.Size != 0 {
		if err := window.Check(q.Size, q.Slide); err != nil {
			return err
		}
	}
	// What goes together is either Cols or a group, so the others count for none.
	switch n := len(q.Cols) + len(q.Group) + len(q.Aggs); {
	case n == 0:
		return api.ErrNone
	case n > api.MaxCols:
		return api.ErrFull
	}
	return nil
}

// goTogether tells whether a query has Cols alone, or a group alone, as its Size says.
func goTogether(q api.Query) bool {
	if q.Size != 0 {
		return len(q.Cols) == 0 && len(q.Names) == 0
	}
	return q.Slide == 0 && len(q.Aggs) == 0 && len(q.Group) == 0 && len(q.Names) == len(q.Cols)
}

func checkWhere(e api.Expr, l []api.Col) error {
	if IsNothing(e) {
		return nil
	}
	t, err := typeOf(e, l)
	if err == nil && t != api.Bool {
		return api.ErrType
	}
	return err
}

// columns are those of what comes, whatever their names.
func columns(q api.Query, l []api.Col) ([]api.Col, error) {
	var comes []api.Col
	for i, name := range names(q) {
		t, err := typeAt(q, i, l)
		if err != nil {
			return nil, err
		}
		comes = append(comes, api.Col{Name: strings.Clone(name), Type: t})
	}
	return comes, nil
}

// names are those of what comes, of Cols or of a group.
func names(q api.Query) []string {
	l := slices.Concat(q.Names, q.Group)
	for _, a := range q.Aggs {
		l = append(l, a.Name)
	}
	return l
}

// typeAt is the type of what comes at a place.
func typeAt(q api.Query, i int, l []api.Col) (int, error) {
	switch {
	case i < len(q.Cols):
		return typeOf(q.Cols[i], l)
	case i < len(q.Group):
		return typeOfGroup(q.Group[i], q.Group[:i], l)
	}
	return typeOfAgg(q.Aggs[i-len(q.Group)], l)
}

func typeOfGroup(name string, ahead []string, l []api.Col) (int, error) {
	at, err := row.Find(l, name)
	if err != nil {
		return 0, err
	}
	if slices.Contains(ahead, name) {
		return 0, api.ErrClash
	}
	return l[at].Type, nil
}

func typeOfAgg(a api.Agg, l []api.Col) (int, error) {
	switch {
	case !IsAgg(a.What):
		return 0, api.ErrSyntax
	case a.What == Count && !IsNothing(a.Of):
		return 0, api.ErrShape
	case a.What == Count:
		return api.Int, nil
	}
	t, err := typeOf(a.Of, l)
	if err == nil && a.What == Sum && t != api.Int {
		return 0, api.ErrType
	}
	return t, err
}

// typeOf tells how an expression is wrong, but not where.
func typeOf(e api.Expr, l []api.Col) (int, error) {
	t, fault := kind.Of(e, l)
	if fault.How != api.OK {
		return 0, fault.How
	}
	return t, nil
}

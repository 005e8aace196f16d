package batch

import (
	"strings"

	"sluicebook/api"
	"sluicebook/query"
	"sluicebook/tree"
)

// What is kept, or told, is made fresh here: it shares no memory with what was handed in.

func freshCols(l []api.Col) []api.Col {
	var fresh []api.Col
	for _, c := range l {
		fresh = append(fresh, api.Col{Name: strings.Clone(c.Name), Type: c.Type})
	}
	return fresh
}

func freshExprs(l []api.Expr) []api.Expr {
	var fresh []api.Expr
	for _, e := range l {
		fresh = append(fresh, freshExpr(e))
	}
	return fresh
}

// freshExpr looks into no expression that is nothing, as anything may stand in it.
func freshExpr(e api.Expr) api.Expr {
	if query.IsNothing(e) {
		return api.Expr{}
	}
	fresh, _ := tree.Fresh(e) // the query was checked, so it is right
	return fresh
}

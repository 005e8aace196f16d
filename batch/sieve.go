package batch

import (
	"errors"

	"sluicebook/api"
	"sluicebook/eval"
	"sluicebook/query"
)

// sieve lets rows through, and makes values of them.
type sieve struct {
	cols  []api.Col
	where api.Expr
	exprs []api.Expr
}

// newSieve is of a query's expressions, which were checked over the columns. It keeps none of what is handed in.
func newSieve(where api.Expr, exprs []api.Expr, l []api.Col) sieve {
	return sieve{cols: freshCols(l), where: freshExpr(where), exprs: freshExprs(exprs)}
}

// take gives what the expressions come to of a row; false: it is not let through, and they are not reckoned.
func (s sieve) take(r []api.Val) ([]api.Val, bool, error) {
	ok, err := s.passes(r)
	if err != nil || !ok {
		return nil, false, err
	}
	var vals []api.Val
	for _, e := range s.exprs {
		v, err := s.come(e, r)
		if err != nil {
			return nil, false, err
		}
		vals = append(vals, v)
	}
	return vals, true, nil
}

func (s sieve) passes(r []api.Val) (bool, error) {
	if query.IsNothing(s.where) {
		return true, nil
	}
	v, err := s.come(s.where, r)
	return v.N == 1, err
}

// come is no value of an expression that is nothing, which is count's: it is not looked at.
func (s sieve) come(e api.Expr, r []api.Val) (api.Val, error) {
	if query.IsNothing(e) {
		return api.Val{}, nil
	}
	return eval.Eval(e, s.cols, r)
}

// fault tells why there is no row.
func fault(err error) api.Out {
	var how api.Errno
	errors.As(err, &how)
	return api.Out{Err: how}
}

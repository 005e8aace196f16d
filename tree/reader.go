package tree

import (
	"slices"

	"sluicebook/api"
	"sluicebook/val"
)

// reader reads tokens from the left. Where a reading is false, the first token that cannot stand there is still ahead.
type reader struct {
	ahead []api.Token
}

// place is where the token ahead stands; of none: the end.
func (r *reader) place(end int) int {
	if len(r.ahead) == 0 {
		return end
	}
	return r.ahead[0].At
}

// take takes the token ahead if it is so.
func (r *reader) take(so func(t api.Token) bool) (api.Token, bool) {
	if len(r.ahead) == 0 || !so(r.ahead[0]) {
		return api.Token{}, false
	}
	t := r.ahead[0]
	r.ahead = r.ahead[1:]
	return t, true
}

// oneOf tells tokens by their text alone: no two kinds have one in common.
func oneOf(texts ...string) func(t api.Token) bool {
	return func(t api.Token) bool { return slices.Contains(texts, t.Text) }
}

// Each of these readings is of one line of the grammar, the loosest first, and hands on to the next.

func (r *reader) expression() (api.Expr, bool) {
	return r.several(r.conjunction, oneOf("or"))
}

func (r *reader) conjunction() (api.Expr, bool) {
	return r.several(r.denial, oneOf("and"))
}

func (r *reader) denial() (api.Expr, bool) {
	return r.oneAhead("not", oneOf("not"), r.denial, r.comparison)
}

func (r *reader) comparison() (api.Expr, bool) {
	left, ok := r.sum()
	if !ok {
		return api.Expr{}, false
	}
	t, ok := r.take(oneOf("=", "<>", "<", "<=", ">", ">="))
	if !ok {
		return left, true
	}
	right, ok := r.sum()
	return between(left, t, right), ok
}

func (r *reader) sum() (api.Expr, bool) {
	return r.several(r.product, oneOf("+", "-"))
}

func (r *reader) product() (api.Expr, bool) {
	return r.several(r.negation, oneOf("*", "/", "%"))
}

func (r *reader) negation() (api.Expr, bool) {
	return r.oneAhead(OpNeg, oneOf("-"), r.negation, r.operand)
}

// several reads parts from the left, as long as a sign stands behind.
func (r *reader) several(part func() (api.Expr, bool), isSign func(t api.Token) bool) (api.Expr, bool) {
	e, ok := part()
	for ok {
		t, more := r.take(isSign)
		if !more {
			break
		}
		var right api.Expr
		right, ok = part()
		e = between(e, t, right)
	}
	return e, ok
}

// between is of a sign that stands between two.
func between(left api.Expr, t api.Token, right api.Expr) api.Expr {
	return api.Expr{Op: t.Text, Args: []api.Expr{left, right}, At: t.At}
}

// oneAhead reads a sign and what it is of; without the sign it reads what else may stand there.
func (r *reader) oneAhead(op string, isSign func(t api.Token) bool, of, other func() (api.Expr, bool)) (api.Expr, bool) {
	t, ok := r.take(isSign)
	if !ok {
		return other()
	}
	e, ok := of()
	return api.Expr{Op: op, Args: []api.Expr{e}, At: t.At}, ok
}

// operand reads what has no sign of its own ahead or between.
func (r *reader) operand() (api.Expr, bool) {
	if t, ok := r.take(oneOf("len", "if")); ok {
		n, _ := argsOf(t.Text)
		args, ok := r.bracketed(n)
		return api.Expr{Op: t.Text, Args: args, At: t.At}, ok
	}
	if t, ok := r.take(isValue); ok {
		v, _ := val.Parse(t.Text)
		return api.Expr{Op: OpVal, Val: v, At: t.At}, true
	}
	if t, ok := r.take(func(t api.Token) bool { return isColumn(t.Text) }); ok {
		return api.Expr{Op: OpCol, Name: t.Text, At: t.At}, true
	}
	args, ok := r.bracketed(1)
	if !ok {
		return api.Expr{}, false
	}
	return args[0], true
}

// isValue asks chapter 1, as Numbers, Quotes, true and false are the only tokens that it reads.
func isValue(t api.Token) bool {
	_, err := val.Parse(t.Text)
	return err == nil
}

// bracketed reads so many expressions in ( and ), with a comma between.
func (r *reader) bracketed(n int) ([]api.Expr, bool) {
	var args []api.Expr
	for i := range n {
		opening := "("
		if i > 0 {
			opening = ","
		}
		if _, ok := r.take(oneOf(opening)); !ok {
			return nil, false
		}
		e, ok := r.expression()
		if !ok {
			return nil, false
		}
		args = append(args, e)
	}
	_, ok := r.take(oneOf(")"))
	return args, ok
}

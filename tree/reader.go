package tree

import (
	"slices"

	"sluicebook/api"
	"sluicebook/lex"
	"sluicebook/val"
)

// Reader reads the tokens of a text from the left. Where a reading is false, the first token that cannot stand there is still ahead.
type Reader struct {
	ahead []api.Token
	end   int
}

// NewReader is of a text, not of tokens, as those of a text are never too many for calls that go as deep as they do.
func NewReader(text string) (*Reader, api.Fault) {
	l, fault := lex.Tokens(text)
	if fault.How != api.OK {
		return nil, fault
	}
	return &Reader{ahead: l, end: len(text)}, api.Fault{}
}

// Ended tells whether no token is ahead.
func (r *Reader) Ended() bool { return len(r.ahead) == 0 }

// Place is where the token ahead stands; of none: the length of the text.
func (r *Reader) Place() int {
	if r.Ended() {
		return r.end
	}
	return r.ahead[0].At
}

// Next tells whether it is so of the token ahead.
func (r *Reader) Next(so func(t api.Token) bool) bool {
	return !r.Ended() && so(r.ahead[0])
}

// Take takes the token ahead if it is so.
func (r *Reader) Take(so func(t api.Token) bool) (api.Token, bool) {
	if !r.Next(so) {
		return api.Token{}, false
	}
	t := r.ahead[0]
	r.ahead = r.ahead[1:]
	return t, true
}

// OneOf tells tokens by their text alone: no two kinds have one in common.
func OneOf(texts ...string) func(t api.Token) bool {
	return func(t api.Token) bool { return slices.Contains(texts, t.Text) }
}

// Each of these readings is of one line of the grammar, the loosest first, and hands on to the next.

// Expression reads one, as far as it goes.
func (r *Reader) Expression() (api.Expr, bool) {
	e, ok := r.several(r.conjunction, OneOf("or"))
	if !ok {
		return api.Expr{}, false
	}
	return e, true
}

func (r *Reader) conjunction() (api.Expr, bool) {
	return r.several(r.denial, OneOf("and"))
}

func (r *Reader) denial() (api.Expr, bool) {
	return r.oneAhead("not", OneOf("not"), r.denial, r.comparison)
}

func (r *Reader) comparison() (api.Expr, bool) {
	left, ok := r.sum()
	if !ok {
		return api.Expr{}, false
	}
	t, ok := r.Take(OneOf("=", "<>", "<", "<=", ">", ">="))
	if !ok {
		return left, true
	}
	right, ok := r.sum()
	return between(left, t, right), ok
}

func (r *Reader) sum() (api.Expr, bool) {
	return r.several(r.product, OneOf("+", "-"))
}

func (r *Reader) product() (api.Expr, bool) {
	return r.several(r.negation, OneOf("*", "/", "%"))
}

func (r *Reader) negation() (api.Expr, bool) {
	return r.oneAhead(OpNeg, OneOf("-"), r.negation, r.operand)
}

// several reads parts from the left, as long as a sign stands behind.
func (r *Reader) several(part func() (api.Expr, bool), isSign func(t api.Token) bool) (api.Expr, bool) {
	e, ok := part()
	for ok {
		t, more := r.Take(isSign)
		if !more {
			break
		}
		var right api.Expr
		right, ok = part()
		e = between(e, t, right)
	}
	return e, ok
}

// between is of a sign that stands between two.
func between(left api.Expr, t api.Token, right api.Expr) api.Expr {
	return api.Expr{Op: t.Text, Args: []api.Expr{left, right}, At: t.At}
}

// oneAhead reads a sign and what it is of; without the sign it reads what else may stand there.
func (r *Reader) oneAhead(op string, isSign func(t api.Token) bool, of, other func() (api.Expr, bool)) (api.Expr, bool) {
	t, ok := r.Take(isSign)
	if !ok {
		return other()
	}
	e, ok := of()
	return api.Expr{Op: op, Args: []api.Expr{e}, At: t.At}, ok
}

// operand reads what has no sign of its own ahead or between.
func (r *Reader) operand() (api.Expr, bool) {
	if t, ok := r.Take(OneOf("len", "if")); ok {
		n, _ := argsOf(t.Text)
		args, ok := r.bracketed(n)
		return api.Expr{Op: t.Text, Args: args, At: t.At}, ok
	}
	if t, ok := r.Take(isValue); ok {
		v, _ := val.Parse(t.Text)
		return api.Expr{Op: OpVal, Val: v, At: t.At}, true
	}
	if t, ok := r.Take(func(t api.Token) bool { return IsName(t.Text) }); ok {
		return api.Expr{Op: OpCol, Name: t.Text, At: t.At}, true
	}
	args, ok := r.bracketed(1)
	if !ok {
		return api.Expr{}, false
	}
	return args[0], true
}

// isValue asks chapter 1, as Numbers, Quotes, true and false are the only tokens that it reads.
func isValue(t api.Token) bool {
	_, err := val.Parse(t.Text)
	return err == nil
}

// bracketed reads so many expressions in ( and ), with a comma between.
func (r *Reader) bracketed(n int) ([]api.Expr, bool) {
	var args []api.Expr
	for i := range n {
		opening := "("
		if i > 0 {
			opening = ","
		}
		if _, ok := r.Take(OneOf(opening)); !ok {
			return nil, false
		}
		e, ok := r.Expression()
		if !ok {
			return nil, false
		}
		args = append(args, e)
	}
	_, ok := r.Take(OneOf(")"))
	return args, ok
}

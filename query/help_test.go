package query_test

import (
	"fmt"
	"math"
	"math/rand"
	"slices"
	"strings"
	"testing"

	"sluicebook/api"
	"sluicebook/plain"
	"sluicebook/query"
	"sluicebook/tree"
)

func number(n, at int) api.Expr {
	return api.Expr{Op: "val", Val: api.Val{Type: api.Int, N: n}, At: at}
}

func words(s string, at int) api.Expr {
	return api.Expr{Op: "val", Val: api.Val{Type: api.Text, S: s}, At: at}
}

func truth(n, at int) api.Expr {
	return api.Expr{Op: "val", Val: api.Val{Type: api.Bool, N: n}, At: at}
}

func col(name string, at int) api.Expr { return api.Expr{Op: "col", Name: name, At: at} }

func op(name string, at int, args ...api.Expr) api.Expr {
	return api.Expr{Op: name, Args: args, At: at}
}

func agg(what string, of api.Expr, name string) api.Agg {
	return api.Agg{What: what, Of: of, Name: name}
}

func counted(name string) api.Agg { return api.Agg{What: "count", Name: name} }

// long is a text of so many bytes.
func long(n int) string { return strings.Repeat("z", n) }

// chain has n nodes below each other.
func chain(n int) api.Expr {
	e := col("i", 0)
	for range n - 1 {
		e = op("neg", 0, e)
	}
	return e
}

// bush has n nodes, which must be odd, and is not deep.
func bush(n int) api.Expr {
	if n == 1 {
		return col("i", 0)
	}
	left := (n - 1) / 2
	if left%2 == 0 {
		left--
	}
	return op("+", 0, bush(left), bush(n-1-left))
}

// languageWords are in the order of chapter 4.
var languageWords = []string{
	"or", "and", "not", "true", "false", "len", "if", "select", "as", "from", "where", "group", "by", "window", "slide", "count", "sum", "least", "most",
}

// whats are in the order of chapter 12.
var whats = []string{"count", "sum", "least", "most"}

// everyToken has each sign, each word of the language, and values and names right and wrong.
var everyToken = slices.Concat(languageWords, []string{
	"(", ")", ",", "+", "-", "*", "/", "%", "=", "<>", "<=", ">=", "<", ">", "a", "7", "0", "'s'", "x1", "abcdefgh", "abcdefghi",
})

// alike tells whether two are the same, At and all.
func alike(a, b api.Expr) bool {
	return a.Op == b.Op && a.Name == b.Name && a.Val == b.Val && a.At == b.At && slices.EqualFunc(a.Args, b.Args, alike)
}

// alikeQueries tells whether two are the same, At and all.
func alikeQueries(a, b api.Query) bool {
	alikeAggs := func(a, b api.Agg) bool { return a.What == b.What && alike(a.Of, b.Of) && a.Name == b.Name }
	return a.From == b.From && alike(a.Where, b.Where) && slices.EqualFunc(a.Cols, b.Cols, alike) && slices.Equal(a.Names, b.Names) &&
		slices.Equal(a.Group, b.Group) && a.Size == b.Size && a.Slide == b.Slide && slices.EqualFunc(a.Aggs, b.Aggs, alikeAggs)
}

// placed shares no list with what it is of, and has other places.
func placed(e api.Expr, place func(at int) int) api.Expr {
	e.At = place(e.At)
	e.Args = slices.Clone(e.Args)
	for i, a := range e.Args {
		e.Args[i] = placed(a, place)
	}
	return e
}

// placedQuery is placed of all expressions of a query.
func placedQuery(q api.Query, place func(at int) int) api.Query {
	q.Where = placed(q.Where, place)
	q.Cols, q.Names, q.Group, q.Aggs = slices.Clone(q.Cols), slices.Clone(q.Names), slices.Clone(q.Group), slices.Clone(q.Aggs)
	for i, e := range q.Cols {
		q.Cols[i] = placed(e, place)
	}
	for i, a := range q.Aggs {
		q.Aggs[i].Of = placed(a.Of, place)
	}
	return q
}

func copied(q api.Query) api.Query { return placedQuery(q, func(at int) int { return at }) }

func moved(q api.Query) api.Query { return placedQuery(q, func(at int) int { return at*3 - 7 }) }

func withoutAt(q api.Query) api.Query { return placedQuery(q, func(int) int { return 0 }) }

// show tells a query, whatever is wrong with it, but no more than can be read.
func show(q api.Query) string { return fmt.Sprintf("%.600s", fmt.Sprintf("%+v", q)) }

// holdParsed holds what Parse answers against what is wanted.
func holdParsed(t *testing.T, text string, want api.Query) {
	t.Helper()
	if q, f := query.Parse(text); !alikeQueries(q, want) || f != (api.Fault{}) {
		t.Errorf("Parse(%q): %s, %v, want %s", text, show(q), f, show(want))
	}
}

// holdFault is of P1 too: nothing stands beside a fault.
func holdFault(t *testing.T, text string, how api.Errno, at int) {
	t.Helper()
	if q, f := query.Parse(text); !alikeQueries(q, api.Query{}) || f != (api.Fault{How: how, At: at}) {
		t.Errorf("Parse(%.450q): %s, %v, want %v at %d", text, show(q), f, how, at)
	}
}

// holdPrinted holds what Print answers against what is wanted, and reads it once more.
func holdPrinted(t *testing.T, q api.Query, want string) {
	t.Helper()
	text, err := query.Print(q)
	if text != want || err != nil {
		t.Errorf("Print(%s): %q, %v, want %q", show(q), text, err, want)
		return
	}
	read, f := query.Parse(text)
	if f != (api.Fault{}) || !alikeQueries(withoutAt(read), withoutAt(q)) {
		t.Errorf("Parse(%q): %s, %v, printed of %s", text, show(read), f, show(q))
	}
	if again, err := query.Print(read); again != text || err != nil {
		t.Errorf("Print of what %q is: %q, %v", text, again, err)
	}
}

// holdUnprinted is for what Parse would not read.
func holdUnprinted(t *testing.T, q api.Query) {
	t.Helper()
	if text, err := query.Print(q); text != "" || plain.Told(err) != api.ErrSyntax {
		t.Errorf("Print(%s): %q, %v, want ErrSyntax", show(q), text, err)
	}
}

// holdCheck is of P1 too: with an error the wanted columns are none.
func holdCheck(t *testing.T, q api.Query, l []api.Col, want []api.Col, how api.Errno) {
	t.Helper()
	if got, err := query.Check(q, l); !slices.Equal(got, want) || plain.Told(err) != how {
		t.Errorf("Check(%s) over %.200v: %v, %v, want %v, %v", show(q), l, got, err, want, how)
	}
}

// columns are over which most queries of these tests are.
func columns() []api.Col {
	return []api.Col{{Name: "at", Type: api.Int}, {Name: "i", Type: api.Int}, {Name: "b", Type: api.Bool}, {Name: "t", Type: api.Text}, {Name: "abcdefgh", Type: api.Int}}
}

// plainQuery is right, over those columns, and has no group.
func plainQuery() api.Query {
	return api.Query{
		From: "s", Where: op("<", 40, col("i", 38), number(5, 42)),
		Cols:  []api.Expr{op("+", 9, col("i", 7), number(1, 11)), col("t", 20), op("not", 24, col("b", 28))},
		Names: []string{"x", "y", "z"},
	}
}

// groupQuery is right, over those columns, and has a group.
func groupQuery() api.Query {
	return api.Query{
		From: "s", Where: col("b", 90), Group: []string{"t", "i"}, Size: 20, Slide: 5,
		Aggs: []api.Agg{counted("n"), agg("sum", op("*", 23, col("i", 21), number(2, 25)), "u"), agg("least", col("t", 50), "v"), agg("most", col("b", 60), "w")},
	}
}

// endless are expressions that are far too great, or stand within themselves, or lie deeper than calls could go.
func endless() []api.Expr {
	doubled := col("i", 5)
	for range 100 {
		doubled = op("+", 6, doubled, doubled)
	}
	own := make([]api.Expr, 1)
	own[0] = op("neg", 5, own...)
	both := make([]api.Expr, 2)
	both[0], both[1] = col("i", 5), op("+", 6, both...)
	return []api.Expr{doubled, own[0], both[1], chain(500_000), {Op: "if", Args: make([]api.Expr, 100_000), At: 5}}
}

// wrong are expressions that are not right, and what chapter 4's Check says of them.
func wrong() []struct {
	e    api.Expr
	want api.Errno
} {
	return []struct {
		e    api.Expr
		want api.Errno
	}{
		{op("nor", 5, col("b", 6), col("b", 7)), api.ErrSyntax},
		{op("sum", 5, col("i", 6)), api.ErrSyntax},
		{op("count", 5), api.ErrSyntax},
		{op(" ", 5), api.ErrSyntax},
		{op("-", 5, api.Expr{}, col("i", 7)), api.ErrSyntax},
		{col("", 5), api.ErrSyntax},
		{col("or", 5), api.ErrSyntax},
		{col("most", 5), api.ErrSyntax},
		{col("a1", 5), api.ErrSyntax},
		{col("i as x, i", 5), api.ErrSyntax},
		{col("i + i", 5), api.ErrSyntax},
		{col("5", 5), api.ErrSyntax},
		{col(long(9), 5), api.ErrSyntax},
		{words("\n", 5), api.ErrSyntax},
		{op("+", 5, col("i", 6)), api.ErrShape},
		{op("+", 5, col("i", 6), col("i", 7), col("i", 8)), api.ErrShape},
		{op("if", 5), api.ErrShape},
		{api.Expr{Op: "col", Name: "i", Args: []api.Expr{col("i", 6)}, At: 5}, api.ErrShape},
		{api.Expr{Op: "val", Name: "i", Val: api.Val{Type: api.Int}, At: 5}, api.ErrShape},
		{api.Expr{Op: "not", Val: api.Val{Type: api.Int}, Args: []api.Expr{col("b", 6)}, At: 5}, api.ErrShape},
		{api.Expr{Op: "val", Val: api.Val{Type: api.Int, S: "x"}, At: 5}, api.ErrShape},
		{api.Expr{Op: "val", Val: api.Val{Type: api.Text, N: 1}, At: 5}, api.ErrShape},
		{api.Expr{Op: "val", At: 5}, api.ErrRange},
		{api.Expr{Op: "val", Val: api.Val{Type: 4}, At: 5}, api.ErrRange},
		{number(-1, 5), api.ErrRange},
		{number(math.MinInt, 5), api.ErrRange},
		{truth(2, 5), api.ErrRange},
		{words(long(41), 5), api.ErrFull},
		{chain(31), api.ErrFull},
		{bush(201), api.ErrFull},
	}
}

// oneOf is one of several, by chance.
func oneOf[T any](r *rand.Rand, l ...T) T { return l[r.Intn(len(l))] }

// operations are the Ops of chapter 4, and how many Args they have.
var operations = []struct {
	op string
	n  int
}{
	{"or", 2}, {"and", 2}, {"not", 1}, {"=", 2}, {"<>", 2}, {"<", 2}, {"<=", 2}, {">", 2}, {">=", 2},
	{"+", 2}, {"-", 2}, {"*", 2}, {"/", 2}, {"%", 2}, {"neg", 1}, {"len", 1}, {"if", 3},
}

// someExpr is a right expression by chance, at most so deep, whatever its types.
func someExpr(r *rand.Rand, depth int) api.Expr {
	if depth > 1 && r.Intn(3) > 0 {
		o := operations[r.Intn(len(operations))]
		e := api.Expr{Op: o.op, At: r.Intn(400)}
		for range o.n {
			e.Args = append(e.Args, someExpr(r, depth-1))
		}
		return e
	}
	if r.Intn(2) == 0 {
		return col(oneOf(r, "at", "i", "b", "t", "abcdefgh", "ors", "neg", "val", "counts"), r.Intn(400))
	}
	return oneOf(r, number(0, 1), number(7, 2), number(math.MaxInt, 3), truth(0, 4), truth(1, 5), words("", 6), words("it's, from", 7), words(long(40), 8))
}

// someName is a right name by chance.
func someName(r *rand.Rand) string {
	return oneOf(r, "a", "z", "at", "i", "b", "t", "abcdefgh", "counted", "su", "summ", "bys", "froms", "val", "col", "neg", "int")
}

// someQuery is one by chance that Parse would read, if its text is not too long.
func someQuery(r *rand.Rand) api.Query {
	q := api.Query{From: someName(r)}
	if r.Intn(2) == 0 {
		q.Where = someExpr(r, 1+r.Intn(3))
	}
	if r.Intn(2) == 0 {
		for range 1 + r.Intn(5) {
			q.Cols = append(q.Cols, someExpr(r, 1+r.Intn(3)))
			q.Names = append(q.Names, someName(r))
		}
		return q
	}
	for range 1 + r.Intn(4) {
		a := api.Agg{What: oneOf(r, whats...), Name: someName(r)}
		if a.What != "count" {
			a.Of = someExpr(r, 1+r.Intn(3))
		}
		q.Aggs = append(q.Aggs, a)
	}
	for range 1 + r.Intn(4) {
		q.Group = append(q.Group, someName(r))
	}
	q.Size = oneOf(r, 0, 1, 5, 10, 1000, 1001, math.MaxInt)
	q.Slide = oneOf(r, q.Size, q.Size, 0, 1, 5, math.MaxInt)
	return q
}

// plainPrint writes a query that Parse would read in another way than Print does.
func plainPrint(q api.Query) string {
	expr := func(e api.Expr) string {
		text, err := tree.Print(e)
		if err != nil {
			panic(err)
		}
		return text
	}
	var items []string
	for i, e := range q.Cols {
		items = append(items, expr(e)+" as "+q.Names[i])
	}
	for _, a := range q.Aggs {
		of := ""
		if a.What != "count" {
			of = "(" + expr(a.Of) + ")"
		}
		items = append(items, a.What+of+" as "+a.Name)
	}
	clauses := []string{"select " + strings.Join(items, ", "), "from " + q.From}
	if q.Where.Op != "" {
		clauses = append(clauses, "where "+expr(q.Where))
	}
	if len(q.Aggs) > 0 {
		clauses = append(clauses, "group by "+strings.Join(q.Group, ", "), fmt.Sprint("window ", q.Size))
		if q.Slide != q.Size {
			clauses = append(clauses, fmt.Sprint("slide ", q.Slide))
		}
	}
	return strings.Join(clauses, " ")
}

package query_test

import (
	"math"
	"math/rand"
	"runtime/debug"
	"slices"
	"strings"
	"testing"

	"sluicebook/api"
	"sluicebook/query"
	"sluicebook/tree"
)

// printed are queries and their texts.
var printed = []struct {
	q    api.Query
	want string
}{
	{api.Query{From: "t", Cols: []api.Expr{col("a", 0)}, Names: []string{"b"}}, "select a as b from t"},
	{api.Query{From: "abcdefgh", Cols: []api.Expr{number(1, 0), words("it's", 0), truth(0, 0)}, Names: []string{"a", "abcdefgh", "a"}},
		"select 1 as a, 'it''s' as abcdefgh, false as a from abcdefgh"},
	{api.Query{From: "t", Where: col("a", 0), Cols: []api.Expr{op("+", 0, col("a", 0), number(1, 0))}, Names: []string{"b"}},
		"select (a + 1) as b from t where a"},
	{api.Query{From: "t", Where: op("not", 0, op("=", 0, col("a", 0), number(1, 0))), Cols: []api.Expr{op("if", 0, col("a", 0), op("neg", 0, col("b", 0)), op("len", 0, col("c", 0)))}, Names: []string{"b"}},
		"select if(a, (- b), len(c)) as b from t where (not (a = 1))"},
	{api.Query{From: "t", Group: []string{"a"}, Size: 5, Slide: 5, Aggs: []api.Agg{counted("n")}},
		"select count as n from t group by a window 5"},
	{api.Query{From: "t", Group: []string{"a", "b", "abcdefgh"}, Size: 5, Slide: 2, Aggs: []api.Agg{agg("sum", col("a", 0), "u")}},
		"select sum(a) as u from t group by a, b, abcdefgh window 5 slide 2"},
	{api.Query{From: "t", Where: truth(1, 0), Group: []string{"a", "a"}, Size: 1, Slide: 1, Aggs: []api.Agg{agg("least", op("+", 0, col("a", 0), col("b", 0)), "u"), counted("v"), agg("most", words("x", 0), "v")}},
		"select least((a + b)) as u, count as v, most('x') as v from t where true group by a, a window 1"},
	{api.Query{From: "t", Group: []string{"a"}, Aggs: []api.Agg{counted("n")}}, "select count as n from t group by a window 0"},
	{api.Query{From: "t", Group: []string{"a"}, Slide: 3, Aggs: []api.Agg{counted("n")}}, "select count as n from t group by a window 0 slide 3"},
	{api.Query{From: "t", Group: []string{"a"}, Size: 3, Aggs: []api.Agg{counted("n")}}, "select count as n from t group by a window 3 slide 0"},
	{api.Query{From: "t", Group: []string{"a"}, Size: math.MaxInt, Slide: math.MaxInt - 1, Aggs: []api.Agg{counted("n")}},
		"select count as n from t group by a window 9223372036854775807 slide 9223372036854775806"},
}

// TestPrint is of Q2: each form as the chapter says, whatever At is.
func TestPrint(t *testing.T) {
	for _, c := range printed {
		holdPrinted(t, c.q, c.want)
		holdPrinted(t, moved(c.q), c.want)
	}
	holdPrinted(t, plainQuery(), "select (i + 1) as x, t as y, (not b) as z from s where (i < 5)")
	holdPrinted(t, groupQuery(), "select count as n, sum((i * 2)) as u, least(t) as v, most(b) as w from s where b group by t, i window 20 slide 5")
}

// TestPrintNothing is of Q2: where nothing is, its At is no matter, but all else is.
func TestPrintNothing(t *testing.T) {
	places := []struct {
		q  api.Query
		of func(q *api.Query) *api.Expr
	}{
		{printed[0].q, func(q *api.Query) *api.Expr { return &q.Where }},
		{printed[4].q, func(q *api.Query) *api.Expr { return &q.Where }},
		{printed[4].q, func(q *api.Query) *api.Expr { return &q.Aggs[0].Of }},
	}
	for _, p := range places {
		want, _ := query.Print(p.q)
		for _, at := range []int{7, -1, math.MinInt, math.MaxInt} {
			q := copied(p.q)
			*p.of(&q) = api.Expr{At: at, Args: []api.Expr{}}
			holdPrinted(t, q, want)
		}
		for _, e := range []api.Expr{{Name: "a"}, {Val: api.Val{Type: api.Int}}, {Val: api.Val{N: 1}}, {Val: api.Val{S: "x"}}, {Args: []api.Expr{{}}}, {Args: []api.Expr{col("a", 0)}}} {
			q := copied(p.q)
			*p.of(&q) = e
			holdUnprinted(t, q)
		}
	}
}

// TestPrintRead is of Q2: what is read is printed as the chapter says, and read once more as it was.
func TestPrintRead(t *testing.T) {
	for _, c := range parsed {
		holdPrinted(t, c.want, plainPrint(c.want))
	}
	for _, text := range whole {
		q, _ := query.Parse(text)
		holdPrinted(t, q, plainPrint(q))
	}
}

// notNames are none in a query, some of them such that the text would be read as another query.
var notNames = append([]string{
	"", "abcdefghi", long(100), "a1", "1", "A", "a_b", " ", "a ", " a", "a b", "'a'", "\u00e9", "\xff", "a\x00", "(a)", "-", "a,b", "a, b", "a\n",
	"a as b", "a from t", "a, 1 as b", "a from t where a", "a where true", "a window 5", "a group by a window 5", "a slide 5",
}, languageWords...)

// TestPrintNames is of Q2: a NAME that is none, in each place of one.
func TestPrintNames(t *testing.T) {
	for _, name := range notNames {
		for _, spoilt := range []func(q *api.Query){
			func(q *api.Query) { q.From = name },
			func(q *api.Query) { q.Names[0] = name },
			func(q *api.Query) { q.Names[2] = name },
		} {
			q := plainQuery()
			spoilt(&q)
			holdUnprinted(t, q)
		}
		for _, spoilt := range []func(q *api.Query){
			func(q *api.Query) { q.From = name },
			func(q *api.Query) { q.Group[0] = name },
			func(q *api.Query) { q.Group[1] = name },
			func(q *api.Query) { q.Group = []string{name} },
			func(q *api.Query) { q.Aggs[0].Name = name },
			func(q *api.Query) { q.Aggs[3].Name = name },
		} {
			q := groupQuery()
			spoilt(&q)
			holdUnprinted(t, q)
		}
	}
}

// TestPrintExpressions is of Q2: an expression that is wrong, in each place of one.
func TestPrintExpressions(t *testing.T) {
	// Calls as deep as this would need far more.
	defer debug.SetMaxStack(debug.SetMaxStack(8 << 20))
	var l []api.Expr
	for _, w := range wrong() {
		l = append(l, w.e)
		if w.want != api.ErrFull {
			l = append(l, op("neg", 0, w.e), op("if", 0, col("b", 0), w.e, col("i", 0)))
		}
	}
	for _, e := range append(l, endless()...) {
		for _, spoilt := range []func(q *api.Query){
			func(q *api.Query) { q.Where = e },
			func(q *api.Query) { q.Cols[0] = e },
			func(q *api.Query) { q.Cols[2] = e },
		} {
			q := plainQuery()
			spoilt(&q)
			holdUnprintedGreat(t, q)
		}
		for _, spoilt := range []func(q *api.Query){
			func(q *api.Query) { q.Where = e },
			func(q *api.Query) { q.Aggs[1].Of = e },
			func(q *api.Query) { q.Aggs[3].Of = e },
			func(q *api.Query) { q.Aggs[0].Of = e },
		} {
			q := groupQuery()
			spoilt(&q)
			holdUnprintedGreat(t, q)
		}
	}
}

// holdUnprintedGreat is holdUnprinted of what is too great to be shown.
func holdUnprintedGreat(t *testing.T, q api.Query) {
	t.Helper()
	if text, err := query.Print(q); text != "" || err != api.ErrSyntax {
		t.Errorf("Print of what has a wrong expression: %.100q, %v", text, err)
	}
}

// unreadable are changes that make of the right query another one that Parse would not read.
func unreadable() (ofPlain, ofGroup []func(q *api.Query)) {
	x := col("i", 0)
	ofPlain = []func(q *api.Query){
		func(q *api.Query) { q.Names = q.Names[:2] },
		func(q *api.Query) { q.Names = nil },
		func(q *api.Query) { q.Names = append(q.Names, "u") },
		func(q *api.Query) { q.Names = append(q.Names, "") },
		func(q *api.Query) { q.Cols = q.Cols[:2] },
		func(q *api.Query) { q.Cols = nil },
		func(q *api.Query) { q.Cols = append(q.Cols, x) },
		func(q *api.Query) { q.Cols, q.Names = nil, nil },
		func(q *api.Query) { q.Cols[1] = api.Expr{} },
		func(q *api.Query) { q.Group = []string{"i"} },
		func(q *api.Query) { q.Size = 5 },
		func(q *api.Query) { q.Slide = 5 },
		func(q *api.Query) { q.Size, q.Slide = 5, 5 },
		func(q *api.Query) { q.Size, q.Slide, q.Group = 5, 5, []string{"i"} },
		func(q *api.Query) { q.Size, q.Slide = -1, -1 },
		func(q *api.Query) { q.Aggs = []api.Agg{counted("n")} },
		func(q *api.Query) { q.Aggs, q.Group, q.Size, q.Slide = []api.Agg{counted("n")}, []string{"i"}, 5, 5 },
	}
	ofGroup = []func(q *api.Query){
		func(q *api.Query) { q.Aggs = nil },
		func(q *api.Query) { q.Group = nil },
		func(q *api.Query) { q.Aggs, q.Group = nil, nil },
		func(q *api.Query) { q.Cols = []api.Expr{x} },
		func(q *api.Query) { q.Names = []string{"u"} },
		func(q *api.Query) { q.Cols, q.Names = []api.Expr{x}, []string{"u"} },
		func(q *api.Query) { q.Aggs[0].Of = x },
		func(q *api.Query) { q.Aggs[1].Of = api.Expr{} },
		func(q *api.Query) { q.Aggs[3].Of = api.Expr{} },
		func(q *api.Query) { q.Size = -1 },
		func(q *api.Query) { q.Slide = -1 },
		func(q *api.Query) { q.Size, q.Slide = -5, -5 },
		func(q *api.Query) { q.Size = math.MinInt },
		func(q *api.Query) { q.Slide = math.MinInt },
		func(q *api.Query) { q.Size, q.Slide = math.MinInt, math.MinInt },
	}
	for _, what := range []string{"", "avg", "Count", "counts", "count ", " sum", "len", "if", "not", "-", "select", "a", "sum(i) as u, sum", "count as n, sum", "\xff", long(500)} {
		ofGroup = append(ofGroup,
			func(q *api.Query) { q.Aggs[0].What = what },
			func(q *api.Query) { q.Aggs[1].What = what },
			func(q *api.Query) { q.Aggs[3].What = what },
		)
	}
	for _, what := range whats[1:] {
		ofGroup = append(ofGroup, func(q *api.Query) { q.Aggs[0].What = what })
	}
	ofGroup = append(ofGroup, func(q *api.Query) { q.Aggs[2].What = "count" })
	return ofPlain, ofGroup
}

// TestUnprinted is of Q2, P1 and P3: each thing by which a query is none that Parse would read, and nothing beside the error.
func TestUnprinted(t *testing.T) {
	ofPlain, ofGroup := unreadable()
	for _, change := range ofPlain {
		q := plainQuery()
		change(&q)
		holdUnprinted(t, q)
		q.Where = api.Expr{}
		holdUnprinted(t, q)
	}
	for _, change := range ofGroup {
		q := groupQuery()
		change(&q)
		holdUnprinted(t, q)
		q.Where = api.Expr{}
		holdUnprinted(t, q)
	}
	holdUnprinted(t, api.Query{})
	holdUnprinted(t, api.Query{From: "t"})
}

// TestPrintLength is of Q2: texts of each length about MaxQuery.
func TestPrintLength(t *testing.T) {
	for _, c := range []struct {
		q    api.Query
		more func(q *api.Query)
	}{
		{plainQuery(), func(q *api.Query) { q.Cols, q.Names = append(q.Cols, col("a", 0)), append(q.Names, "a") }},
		{groupQuery(), func(q *api.Query) { q.Aggs = append(q.Aggs, counted("a")) }},
		{groupQuery(), func(q *api.Query) { q.Group = append(q.Group, "a") }},
	} {
		q := c.q
		for len(plainPrint(q)) < 375 {
			c.more(&q)
		}
		seen := map[int]bool{}
		// The rest is made up by the length of a value.
		for n := range 41 {
			q.Where = words(long(n), 0)
			text := plainPrint(q)
			seen[len(text)] = true
			if len(text) <= 400 {
				holdPrinted(t, q, text)
			} else {
				holdUnprinted(t, q)
			}
		}
		if !seen[400] || !seen[401] {
			t.Error("not at the edge")
		}
	}
}

// TestPrintFar is of P1 and Q2: what is far too long.
func TestPrintFar(t *testing.T) {
	far := strings.Repeat("a", 1<<20)
	q := plainQuery()
	q.Cols, q.Names = slices.Repeat([]api.Expr{bush(199)}, 1<<16), slices.Repeat([]string{far}, 1<<16)
	holdFar(t, q)
	q.Names = slices.Repeat([]string{"a"}, 1<<16)
	holdFar(t, q)
	q = groupQuery()
	q.Aggs = slices.Repeat([]api.Agg{agg("most", bush(199), "a")}, 1<<16)
	holdFar(t, q)
	q = groupQuery()
	q.Group = slices.Repeat([]string{far}, 1<<16)
	holdFar(t, q)
	q = groupQuery()
	q.From = far
	holdFar(t, q)
	q = groupQuery()
	q.Aggs[0].What = far
	holdFar(t, q)
}

func holdFar(t *testing.T, q api.Query) {
	t.Helper()
	if text, err := query.Print(q); text != "" || err != api.ErrSyntax {
		t.Errorf("Print of what is far too long: %.100q, %v", text, err)
	}
}

// readable tells of a query what Q2 does: whether Parse would read just that one.
func readable(q api.Query) bool {
	isName := func(s string) bool { return tree.Check(col(s, 0)) == nil }
	isRight := func(e api.Expr) bool { return tree.Check(e) == nil }
	isNothing := func(e api.Expr) bool { return alike(placed(e, func(int) int { return 0 }), api.Expr{}) }
	so := isName(q.From) && (isNothing(q.Where) || isRight(q.Where))
	for _, name := range slices.Concat(q.Names, q.Group) {
		so = so && isName(name)
	}
	for _, e := range q.Cols {
		so = so && isRight(e)
	}
	for _, a := range q.Aggs {
		so = so && isName(a.Name) && slices.Contains(whats, a.What) && (a.What == "count" && isNothing(a.Of) || a.What != "count" && isRight(a.Of))
	}
	ofCols := len(q.Cols) > 0 && len(q.Names) == len(q.Cols) && len(q.Group)+len(q.Aggs) == 0 && q.Size == 0 && q.Slide == 0
	ofGroup := len(q.Cols)+len(q.Names) == 0 && len(q.Group) > 0 && len(q.Aggs) > 0 && q.Size >= 0 && q.Slide >= 0
	return so && (ofCols || ofGroup) && len(plainPrint(q)) <= 400
}

// TestPrintSome is of Q2: queries by chance, some of them changed, against what the chapter says of them.
func TestPrintSome(t *testing.T) {
	r := rand.New(rand.NewSource(3))
	right, not := 0, 0
	for range 20_000 {
		q := someQuery(r)
		for range r.Intn(3) {
			change(r, &q)
		}
		if readable(q) {
			right++
			holdPrinted(t, q, plainPrint(q))
		} else {
			not++
			holdUnprinted(t, q)
		}
	}
	if right < 4_000 || not < 4_000 {
		t.Errorf("only %d right, %d not", right, not)
	}
}

// change changes something of a query by chance, which may be right as well.
func change(r *rand.Rand, q *api.Query) {
	name := oneOf(r, oneOf(r, "a", "i", "t", "b", "at", "n", "x"), oneOf(r, notNames...))
	e := oneOf(r, col("i", 3), truth(1, 4), words("x", 5), api.Expr{}, api.Expr{At: 9}, api.Expr{Name: "i"}, col("zz", 3), number(1, 0), number(-1, 0), op("not", 1, col("b", 2)), op("+", 1, col("t", 2), number(1, 3)), chain(31), bush(201))
	n := oneOf(r, 0, 1, -1, 5, 10, 11, 100, 1000, 1001, math.MinInt, math.MaxInt)
	switch r.Intn(14) {
	case 0:
		q.From = name
	case 1:
		q.Where = e
	case 2:
		q.Cols = append(slices.Clone(q.Cols), e)
	case 3:
		q.Names = append(slices.Clone(q.Names), name)
	case 4:
		q.Group = append(slices.Clone(q.Group), name)
	case 5:
		q.Aggs = append(slices.Clone(q.Aggs), api.Agg{What: oneOf(r, "count", "sum", "least", "most", "", "len"), Of: e, Name: name})
	case 6:
		q.Size = n
	case 7:
		q.Slide = n
	case 8:
		q.Size, q.Slide = n, n
	case 9:
		q.Cols, q.Names = append(slices.Clone(q.Cols), e), append(slices.Clone(q.Names), name)
	case 10:
		q.Cols, q.Names = nil, nil
	case 11:
		q.Aggs, q.Group = nil, nil
	case 12:
		q.Group = q.Group[:max(0, len(q.Group)-1)]
	case 13:
		q.Names = q.Names[:max(0, len(q.Names)-1)]
	}
}

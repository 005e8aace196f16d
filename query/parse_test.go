package query_test

import (
	"math"
	"math/rand"
	"strings"
	"testing"

	"sluicebook/api"
	"sluicebook/lex"
	"sluicebook/plain"
	"sluicebook/query"
	"sluicebook/tree"
)

// parsed are texts and their queries.
var parsed = []struct {
	text string
	want api.Query
}{
	{"select a as b from t", api.Query{From: "t", Cols: []api.Expr{col("a", 7)}, Names: []string{"b"}}},
	{"select a+1 as b, 'x' as c from t where a < 2", api.Query{
		From: "t", Where: op("<", 41, col("a", 39), number(2, 43)),
		Cols: []api.Expr{op("+", 8, col("a", 7), number(1, 9)), words("x", 17)}, Names: []string{"b", "c"},
	}},
	{"\nselect\n(a)as b,if(a,b,c)as abcdefgh from abcdefgh\nwhere(not true)", api.Query{
		From: "abcdefgh", Where: op("not", 57, truth(1, 61)),
		Cols:  []api.Expr{col("a", 9), op("if", 16, col("a", 19), col("b", 21), col("c", 23))},
		Names: []string{"b", "abcdefgh"},
	}},
	{"select a as a, a as a from a where a", api.Query{
		From: "a", Where: col("a", 35), Cols: []api.Expr{col("a", 7), col("a", 15)}, Names: []string{"a", "a"},
	}},
	{"select count as n from t group by a window 5", api.Query{
		From: "t", Group: []string{"a"}, Size: 5, Slide: 5, Aggs: []api.Agg{counted("n")},
	}},
	{"select count as n from t group by a window 5 slide 2", api.Query{
		From: "t", Group: []string{"a"}, Size: 5, Slide: 2, Aggs: []api.Agg{counted("n")},
	}},
	{"select count as n from t group by a window 5 slide 5", api.Query{
		From: "t", Group: []string{"a"}, Size: 5, Slide: 5, Aggs: []api.Agg{counted("n")},
	}},
	{"select sum(a*2)as u,least ( b ) as v , most((c)) as w,count as n from s where b or c group by a,b , c window 7", api.Query{
		From: "s", Where: op("or", 80, col("b", 78), col("c", 83)), Group: []string{"a", "b", "c"}, Size: 7, Slide: 7,
		Aggs: []api.Agg{agg("sum", op("*", 12, col("a", 11), number(2, 13)), "u"), agg("least", col("b", 28), "v"), agg("most", col("c", 45), "w"), counted("n")},
	}},
	{"select count as n, count as n from t group by a, a window 0", api.Query{
		From: "t", Group: []string{"a", "a"}, Aggs: []api.Agg{counted("n"), counted("n")},
	}},
	{"select count as n from t group by a window 0 slide 9223372036854775807", api.Query{
		From: "t", Group: []string{"a"}, Slide: math.MaxInt, Aggs: []api.Agg{counted("n")},
	}},
	{"select count as n from t group by a window 9223372036854775807 slide 0", api.Query{
		From: "t", Group: []string{"a"}, Size: math.MaxInt, Aggs: []api.Agg{counted("n")},
	}},
	{"select true as b from t", api.Query{From: "t", Cols: []api.Expr{truth(1, 7)}, Names: []string{"b"}}},
	{"select not a as b from t", api.Query{From: "t", Cols: []api.Expr{op("not", 7, col("a", 11))}, Names: []string{"b"}}},
	{"select len(a) as b from t", api.Query{From: "t", Cols: []api.Expr{op("len", 7, col("a", 11))}, Names: []string{"b"}}},
	{"select -a as b from t", api.Query{From: "t", Cols: []api.Expr{op("neg", 7, col("a", 8))}, Names: []string{"b"}}},
	{"select counts as sums from mosts where wheres", api.Query{From: "mosts", Where: col("wheres", 39), Cols: []api.Expr{col("counts", 7)}, Names: []string{"sums"}}},
	{"select 'from t where a' as b from t", api.Query{From: "t", Cols: []api.Expr{words("from t where a", 7)}, Names: []string{"b"}}},
	{"select a as b,a as c,a as d,a as e,a as f,a as g,a as h from t", api.Query{
		From:  "t",
		Cols:  []api.Expr{col("a", 7), col("a", 14), col("a", 21), col("a", 28), col("a", 35), col("a", 42), col("a", 49)},
		Names: []string{"b", "c", "d", "e", "f", "g", "h"},
	}},
}

// TestParse is of Q1: queries with and without where, with columns and with a group, and where their expressions stand.
func TestParse(t *testing.T) {
	for _, c := range parsed {
		holdParsed(t, c.text, c.want)
		hold(t, c.text)
	}
}

// TestNames is of Q1: what a NAME may be, in each place of one.
func TestNames(t *testing.T) {
	places := []struct{ ahead, behind string }{
		{"select a as ", " from t"},
		{"select a as b, a as ", " from t"},
		{"select a as b from ", ""},
		{"select a as b from ", " where a"},
		{"select count as ", " from t group by a window 5"},
		{"select sum(a) as ", " from t group by a window 5"},
		{"select count as n from ", " group by a window 5"},
		{"select count as n from t group by ", " window 5"},
		{"select count as n from t group by a, ", " window 5 slide 5"},
	}
	for _, p := range places {
		for _, name := range []string{"a", "z", "abcdefgh", "zzzzzzzz", "val", "col", "neg", "int", "wheres", "asc", "counts", "o"} {
			text := p.ahead + name + p.behind
			if q, f := query.Parse(text); f != (api.Fault{}) || !names(q, name) {
				t.Errorf("Parse(%q): %s, %v", text, show(q), f)
			}
			hold(t, text)
		}
		for _, none := range append([]string{"abcdefghi", long(100), "a1", "abcdefg1", "or1", "7", "'a'", "(", ",", "-"}, languageWords...) {
			holdFault(t, p.ahead+none+p.behind, api.ErrSyntax, len(p.ahead))
		}
		// What no token has is chapter 3's.
		holdFault(t, p.ahead+"a_b"+p.behind, api.ErrSyntax, len(p.ahead)+1)
		holdFault(t, p.ahead+"A"+p.behind, api.ErrSyntax, len(p.ahead))
	}
}

// names tells whether one of a query's names is this one.
func names(q api.Query, name string) bool {
	all := append(append([]string{q.From}, q.Names...), q.Group...)
	for _, a := range q.Aggs {
		all = append(all, a.Name)
	}
	return strings.Contains(" "+strings.Join(all, " ")+" ", " "+name+" ")
}

// faulty are texts and the first thing that is wrong with them.
var faulty = []struct {
	text string
	how  api.Errno
	at   int
}{
	// Chapter 3's, ahead of all else.
	{"select a as b from t ?", api.ErrSyntax, 21},
	{"a ?", api.ErrSyntax, 2},
	{"select A as b from t", api.ErrSyntax, 7},
	{"select count as n from t group by a window 05", api.ErrSyntax, 43},
	{"select count as n from t group by a window 5s", api.ErrSyntax, 43},
	{"select 'a as b from t", api.ErrSyntax, 7},
	{"select count as n from t group by a window 9223372036854775808", api.ErrRange, 43},
	{"from 9223372036854775808", api.ErrRange, 5},
	{"select '" + long(41) + "' as b from t", api.ErrFull, 7},
	{"from '" + long(41) + "'", api.ErrFull, 5},
	{"select a as b from t" + strings.Repeat(" ", 381), api.ErrFull, 0},
	{long(401), api.ErrFull, 0},
	{"from" + strings.Repeat("?", 400), api.ErrFull, 0},

	// A beginning that is none.
	{"from t", api.ErrSyntax, 0},
	{"a", api.ErrSyntax, 0},
	{"  selects a as b from t", api.ErrSyntax, 2},
	{"select select a as b from t", api.ErrSyntax, 7},
	{"(select a as b from t)", api.ErrSyntax, 0},

	// Items.
	{"select from t", api.ErrSyntax, 7},
	{"select , a as b from t", api.ErrSyntax, 7},
	{"select a from t", api.ErrSyntax, 9},
	{"select a b from t", api.ErrSyntax, 9},
	{"select a, b as c from t", api.ErrSyntax, 8},
	{"select a as b, from t", api.ErrSyntax, 15},
	{"select a as b as c from t", api.ErrSyntax, 14},
	{"select a as b c as d from t", api.ErrSyntax, 14},
	{"select a as b where a", api.ErrSyntax, 14},
	{"select a < b < c as d from t", api.ErrSyntax, 13},
	{"select a + as b from t", api.ErrSyntax, 11},
	{"select (a as b from t", api.ErrSyntax, 10},
	{"select (a as b) from t", api.ErrSyntax, 10},
	{"select a) as b from t", api.ErrSyntax, 8},
	{"select if(a, b) as c from t", api.ErrSyntax, 14},
	{"select * from t", api.ErrSyntax, 7},
	{"select a as b from t, u", api.ErrSyntax, 20},
	{"select a as b from t u", api.ErrSyntax, 21},

	// Items of a group beside columns.
	{"select count as n, a as b from t group by a window 5", api.ErrSyntax, 19},
	{"select sum(a) as n, 1 as b from t group by a window 5", api.ErrSyntax, 20},
	{"select count as n, (count as m) from t group by a window 5", api.ErrSyntax, 19},
	{"select a as b, count as n from t", api.ErrSyntax, 15},
	{"select a as b, sum(a) as n from t group by a window 5", api.ErrSyntax, 15},
	{"select 1 + sum(a) as n from t group by a window 5", api.ErrSyntax, 11},
	{"select sum(a) + 1 as n from t group by a window 5", api.ErrSyntax, 14},
	{"select (sum(a)) as n from t group by a window 5", api.ErrSyntax, 8},
	{"select sum(sum(a)) as n from t group by a window 5", api.ErrSyntax, 11},
	{"select sum(count) as n from t group by a window 5", api.ErrSyntax, 11},
	{"select -count as n from t", api.ErrSyntax, 8},

	// Aggregates.
	{"select count(a) as n from t group by a window 5", api.ErrSyntax, 12},
	{"select count() as n from t group by a window 5", api.ErrSyntax, 12},
	{"select sum as n from t group by a window 5", api.ErrSyntax, 11},
	{"select sum a as n from t group by a window 5", api.ErrSyntax, 11},
	{"select sum() as n from t group by a window 5", api.ErrSyntax, 11},
	{"select least(a, b) as n from t group by a window 5", api.ErrSyntax, 14},
	{"select most(a as n from t group by a window 5", api.ErrSyntax, 14},
	{"select most((a) as n from t group by a window 5", api.ErrSyntax, 16},
	{"select most(a)) as n from t group by a window 5", api.ErrSyntax, 14},
	{"select avg(a) as n from t group by a window 5", api.ErrSyntax, 10},
	{"select count from t group by a window 5", api.ErrSyntax, 13},
	{"select count n from t group by a window 5", api.ErrSyntax, 13},

	// A group behind columns, and items of a group without one.
	{"select a as b from t group by a window 5", api.ErrSyntax, 21},
	{"select a as b from t where a group by a window 5", api.ErrSyntax, 29},
	{"select a as b from t window 5", api.ErrSyntax, 21},
	{"select a as b from t slide 5", api.ErrSyntax, 21},
	{"select count as n from t", api.ErrSyntax, 24},
	{"select count as n from t ", api.ErrSyntax, 25},
	{"select count as n from t where a", api.ErrSyntax, 32},
	{"select count as n from t where a + b", api.ErrSyntax, 36},
	{"select count as n from t window 5", api.ErrSyntax, 25},
	{"select most(a) as n from t where a window 5", api.ErrSyntax, 35},

	// Where.
	{"select a as b from t where", api.ErrSyntax, 26},
	{"select a as b from t where where a", api.ErrSyntax, 27},
	{"select a as b from t where a where b", api.ErrSyntax, 29},
	{"select a as b from t where a, b", api.ErrSyntax, 28},
	{"select a as b from t where a as b", api.ErrSyntax, 29},
	{"select a as b from t where count", api.ErrSyntax, 27},
	{"select count as n from t where group by a window 5", api.ErrSyntax, 31},
	{"select count as n where a from t group by a window 5", api.ErrSyntax, 18},
	{"select count as n from t group by a window 5 where a", api.ErrSyntax, 45},

	// The group.
	{"select count as n from t group a window 5", api.ErrSyntax, 31},
	{"select count as n from t groupby a window 5", api.ErrSyntax, 25},
	{"select count as n from t by a window 5", api.ErrSyntax, 25},
	{"select count as n from t group by window 5", api.ErrSyntax, 34},
	{"select count as n from t group by a, window 5", api.ErrSyntax, 37},
	{"select count as n from t group by a b window 5", api.ErrSyntax, 36},
	{"select count as n from t group by (a) window 5", api.ErrSyntax, 34},
	{"select count as n from t group by a + b window 5", api.ErrSyntax, 36},
	{"select count as n from t group by 1 window 5", api.ErrSyntax, 34},
	{"select count as n from t group by a as b window 5", api.ErrSyntax, 36},
	{"select count as n from t group by a", api.ErrSyntax, 35},
	{"select count as n from t group by a slide 5", api.ErrSyntax, 36},
	{"select count as n from t group by a window", api.ErrSyntax, 42},
	{"select count as n from t group by a window a", api.ErrSyntax, 43},
	{"select count as n from t group by a window '5'", api.ErrSyntax, 43},
	{"select count as n from t group by a window -5", api.ErrSyntax, 43},
	{"select count as n from t group by a window (5)", api.ErrSyntax, 43},
	{"select count as n from t group by a window 5 5", api.ErrSyntax, 45},
	{"select count as n from t group by a window 5 + 5", api.ErrSyntax, 45},
	{"select count as n from t group by a window 5, 5", api.ErrSyntax, 44},
	{"select count as n from t group by a window 5 slide", api.ErrSyntax, 50},
	{"select count as n from t group by a window 5 slide a", api.ErrSyntax, 51},
	{"select count as n from t group by a window 5 slide -1", api.ErrSyntax, 51},
	{"select count as n from t group by a window 5 slide 1 slide 1", api.ErrSyntax, 53},
	{"select count as n from t group by a window 5 slide 1)", api.ErrSyntax, 52},
	{"select count as n from t group by a window 5 window 5", api.ErrSyntax, 45},
	{"select count as n from t group by a window 5 group by a window 5", api.ErrSyntax, 45},
	{"select count as n from t slide 5 group by a window 5", api.ErrSyntax, 25},
}

// TestFaults is of Q1, P1 and P3: chapter 3's fault ahead of all else, then the first token that cannot stand there, or the length of the text.
func TestFaults(t *testing.T) {
	for _, c := range faulty {
		holdFault(t, c.text, c.how, c.at)
		if _, f := lex.Tokens(c.text); f == (api.Fault{}) {
			hold(t, c.text)
		}
	}
}

// TestWords is of Q1: a word of the language where another one is to stand.
func TestWords(t *testing.T) {
	const text = "select count as n from t where a group by a window 5 slide 1"
	for _, k := range tokens(t, text) {
		for _, w := range languageWords {
			if k.Kind == api.Word && w != k.Text {
				hold(t, text[:k.At]+w+text[k.At+len(k.Text):])
			}
		}
	}
}

// short writes what bush and chain are made of with no bracket that is not needed.
func short(e api.Expr) string {
	switch e.Op {
	case "col":
		return e.Name
	case "neg":
		if e.Args[0].Op == "+" {
			return "-(" + short(e.Args[0]) + ")"
		}
		return "-" + short(e.Args[0])
	}
	right := short(e.Args[1])
	if e.Args[1].Op == "+" {
		right = "(" + right + ")"
	}
	return short(e.Args[0]) + "+" + right
}

// TestFull is of Q1: an expression as great and as deep as may be, and a greater one, in each place of one; what cannot stand there is told ahead.
func TestFull(t *testing.T) {
	places := []struct{ ahead, behind string }{
		{"select ", " as b from t"},
		{"select a as b, ", " as c from t where a"},
		{"select a as b from t where ", ""},
		{"select sum(", ") as n from t group by a window 5"},
		{"select count as n, most(", ") as m from t where a group by a window 5"},
		{"select count as n from t where ", " group by a window 5"},
	}
	for _, p := range places {
		for _, e := range []api.Expr{chain(30), bush(199), op("neg", 0, bush(199))} {
			text := p.ahead + short(e) + p.behind
			if len(text) > 400 {
				t.Fatalf("%q has %d bytes", text, len(text))
			}
			if q, f := query.Parse(text); f != (api.Fault{}) || len(q.From) != 1 {
				t.Errorf("Parse(%q): %v", text, f)
			}
			hold(t, text)
		}
		for _, e := range []api.Expr{chain(31), chain(100), bush(201), op("neg", 0, bush(201))} {
			text := p.ahead + short(e) + p.behind
			holdFault(t, text, api.ErrFull, 0)
			holdFault(t, text+")", api.ErrSyntax, len(text))
			holdFault(t, text+" as", api.ErrSyntax, len(text)+1)
			holdFault(t, ")"+text, api.ErrSyntax, 0)
			holdFault(t, text+" 'a", api.ErrSyntax, len(text)+1)
		}
		// Of one that is too great what comes behind is read all the same.
		cut := p.ahead + short(chain(31))
		if p.behind != "" {
			holdFault(t, cut, api.ErrSyntax, len(cut))
			holdFault(t, cut+p.behind[:len(p.behind)-1], api.ErrSyntax, len(cut+p.behind)-1)
		}
	}
}

// TestNotFullTogether is of Q1: expressions that are too many together, but none by itself.
func TestNotFullTogether(t *testing.T) {
	half := short(bush(101))
	for _, text := range []string{
		"select " + half + " as a, " + half + " as b from t",
		"select " + half + " as a from t where " + half,
		"select sum(" + half + ") as a from t where " + half + " group by a window 5",
		"select sum(" + half + ") as a, most(" + half + ") as b from t group by a window 5",
	} {
		if len(text) > 400 {
			t.Fatalf("%q has %d bytes", text, len(text))
		}
		if _, f := query.Parse(text); f != (api.Fault{}) {
			t.Errorf("Parse(%q): %v", text, f)
		}
	}
}

// TestLongest is of Q1: a text of just MaxQuery bytes, and one with a byte more.
func TestLongest(t *testing.T) {
	for _, c := range parsed {
		full := c.text + strings.Repeat(" ", api.MaxQuery-len(c.text))
		holdParsed(t, full, c.want)
		holdFault(t, full+" ", api.ErrFull, 0)
	}
	// How many columns may come is no matter of the text.
	many := "select " + strings.Repeat("a as a,", 53) + "a as a from t where a"
	if q, f := query.Parse(many); f != (api.Fault{}) || len(q.Cols) != 54 || len(q.Names) != 54 {
		t.Errorf("of %d bytes: %v, %d columns", len(many), f, len(q.Cols))
	}
	many = "select " + strings.Repeat("count as n,", 20) + "count as n from t group by " + strings.Repeat("a,", 60) + "a window 5"
	if q, f := query.Parse(many); f != (api.Fault{}) || len(q.Aggs) != 21 || len(q.Group) != 61 {
		t.Errorf("of %d bytes: %v, %d aggregates, %d columns of a group", len(many), f, len(q.Aggs), len(q.Group))
	}
}

// TestAnyText is of P1 and Q1: texts by chance are read or have a fault, with nothing beside it.
func TestAnyText(t *testing.T) {
	r := rand.New(rand.NewSource(1))
	pieces := append([]string{" ", "\n", "?", "'", "A", "\xff", "007", "1b", "9223372036854775808", "'" + long(41) + "'"}, everyToken...)
	for range 20_000 {
		text := oneOf(r, "", "", "select ", "select a as b from t ", "select count as n from t where ", "select count as n from t group by a window 5 ")
		for range r.Intn(12) {
			text += pieces[r.Intn(len(pieces))] + oneOf(r, "", " ")
		}
		if _, fault := lex.Tokens(text); fault != (api.Fault{}) {
			holdFault(t, text, fault.How, fault.At)
			continue
		}
		hold(t, text)
	}
	for range 50_000 {
		b := make([]byte, r.Intn(40))
		r.Read(b)
		text := oneOf(r, "", "select a as b from t where ") + string(b)
		q, f := query.Parse(text)
		if f.How != api.OK && !alikeQueries(q, api.Query{}) || f.How == api.OK && f.At != 0 {
			t.Errorf("Parse(%q): %s, %v", text, show(q), f)
		}
	}
}

// TestSomeQueries is of Q1: queries by chance, written by hand, are read as they were, wherever their expressions stand.
func TestSomeQueries(t *testing.T) {
	r := rand.New(rand.NewSource(2))
	read := 0
	for range 5_000 {
		want := someQuery(r)
		text := plainPrint(want)
		if len(text) > api.MaxQuery {
			holdFault(t, text, api.ErrFull, 0)
			continue
		}
		read++
		q, f := query.Parse(text)
		if f != (api.Fault{}) || !alikeQueries(withoutAt(q), withoutAt(want)) {
			t.Errorf("Parse(%q): %s, %v, want %s", text, show(q), f, show(want))
		}
		holdRead(t, text, tokens(t, text), 0, true)
	}
	if read < 2_000 {
		t.Errorf("only %d were read", read)
	}
}

// TestRight is of Q1: of what is read each expression is right, or nothing.
func TestRight(t *testing.T) {
	for _, text := range whole {
		q, _ := query.Parse(text)
		all := append([]api.Expr{q.Where}, q.Cols...)
		for _, a := range q.Aggs {
			all = append(all, a.Of)
		}
		for _, e := range all {
			if err := tree.Check(e); e.Op == "" && !alike(e, api.Expr{}) || e.Op != "" && err != nil {
				t.Errorf("Parse(%q): %v: %v", text, e, plain.Told(err))
			}
		}
	}
}

// TestParseFresh is of P2: what a call answers is the caller's, none of its lists shares memory with another one, and it changes no later answer.
func TestParseFresh(t *testing.T) {
	for _, text := range whole {
		want, _ := query.Parse(text)
		want = copied(want)
		q, _ := query.Parse(text)
		appendTo(&q)
		if !alikeQueries(q, want) {
			t.Errorf("appending to lists of Parse(%q) made %s of it, which was %s", text, show(q), show(want))
		}
		spoil(&q)
		holdParsed(t, text, want)
	}
}

// appendTo writes behind all lists of a query.
func appendTo(q *api.Query) {
	more := api.Expr{Op: "more", At: -1}
	var behind func(l []api.Expr)
	behind = func(l []api.Expr) {
		_ = append(l, more, more)
		for _, e := range l {
			behind(e.Args)
		}
	}
	behind(q.Cols)
	behind(q.Where.Args)
	for _, a := range q.Aggs {
		behind(a.Of.Args)
	}
	_ = append(q.Names, "more", "more")
	_ = append(q.Group, "more", "more")
	_ = append(q.Aggs, api.Agg{What: "more"})
}

// spoil writes over all of a query.
func spoil(q *api.Query) {
	var over func(l []api.Expr)
	over = func(l []api.Expr) {
		for i := range l {
			over(l[i].Args)
			l[i] = api.Expr{Op: "spoilt", At: -1}
		}
	}
	over(q.Cols)
	over(q.Where.Args)
	for i := range q.Aggs {
		over(q.Aggs[i].Of.Args)
		q.Aggs[i] = api.Agg{What: "spoilt"}
	}
	for _, l := range [][]string{q.Names, q.Group} {
		for i := range l {
			l[i] = "spoilt"
		}
	}
	*q = api.Query{From: "spoilt"}
}

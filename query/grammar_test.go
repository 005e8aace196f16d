package query_test

import (
	"slices"
	"strconv"
	"strings"
	"testing"

	"sluicebook/api"
	"sluicebook/lex"
	"sluicebook/query"
	"sluicebook/tree"
)

// grammar is that of chapters 12 and 4, all ways in which a part may be made. NAME, NUMBER and QUOTE are kinds of tokens.
const grammar = `
	QUERY: select COLS from NAME | select COLS from NAME where OR | select AGGS from NAME GROUP | select AGGS from NAME where OR GROUP
	COLS: COL | COLS , COL
	COL: OR as NAME
	AGGS: AGG | AGGS , AGG
	AGG: count as NAME | sum ( OR ) as NAME | least ( OR ) as NAME | most ( OR ) as NAME
	GROUP: group by NAMES window NUMBER | group by NAMES window NUMBER slide NUMBER
	NAMES: NAME | NAMES , NAME
	OR: AND | OR or AND
	AND: NOT | AND and NOT
	NOT: COMPARED | not NOT
	COMPARED: SUM | SUM = SUM | SUM <> SUM | SUM < SUM | SUM <= SUM | SUM > SUM | SUM >= SUM
	SUM: PRODUCT | SUM + PRODUCT | SUM - PRODUCT
	PRODUCT: NEG | PRODUCT * NEG | PRODUCT / NEG | PRODUCT % NEG
	NEG: ONE | - NEG
	ONE: NUMBER | QUOTE | true | false | NAME | ( OR ) | len ( OR ) | if ( OR , OR , OR )
`

// way is one in which a part may be made.
type way struct {
	part string
	of   []string
}

// ways are all, by their parts.
var ways = func() map[string][]way {
	l := map[string][]way{}
	for _, line := range strings.Split(strings.TrimSpace(grammar), "\n") {
		part, all, _ := strings.Cut(strings.TrimSpace(line), ": ")
		for _, of := range strings.Split(all, " | ") {
			l[part] = append(l[part], way{part, strings.Fields(of)})
		}
	}
	return l
}()

// begun is a way that is done up to a place, and where it began.
type begun struct {
	part     string
	way      int
	done, at int
}

func (b begun) of() []string { return ways[b.part][b.way].of }

// next is what is wanted; empty: all is done.
func (b begun) next() string {
	if l := b.of(); b.done < len(l) {
		return l[b.done]
	}
	return ""
}

func (b begun) further() begun {
	b.done++
	return b
}

// chart has, ahead of each token and at the end, all ways that are begun there: Earley's reading, which goes no further than the first token that cannot stand there.
type chart [][]begun

func newChart() chart {
	var first []begun
	for i := range ways["QUERY"] {
		first = append(first, begun{part: "QUERY", way: i})
	}
	return chart{nil}.closed(first)
}

// closed is the chart with what follows from the ways of its last place, without a further token.
func (c chart) closed(l []begun) chart {
	here := len(c) - 1
	seen := map[begun]struct{}{}
	for _, b := range l {
		seen[b] = struct{}{}
	}
	add := func(b begun) {
		if _, ok := seen[b]; !ok {
			seen[b] = struct{}{}
			l = append(l, b)
		}
	}
	for i := 0; i < len(l); i++ {
		b := l[i]
		want := b.next()
		for k := range ways[want] {
			add(begun{part: want, way: k, at: here})
		}
		if want == "" {
			for _, up := range c[b.at] {
				if up.next() == b.part {
					add(up.further())
				}
			}
		}
	}
	c[here] = l
	return c
}

// with is the chart with one token more; false: it cannot stand there.
func (c chart) with(t api.Token) (chart, bool) {
	var l []begun
	for _, b := range c[len(c)-1] {
		if isKind(t, b.next()) {
			l = append(l, b.further())
		}
	}
	if len(l) == 0 {
		return c, false
	}
	return append(slices.Clip(c), nil).closed(l), true
}

// mayEnd tells whether the tokens are a query.
func (c chart) mayEnd() bool {
	return slices.ContainsFunc(c[len(c)-1], func(b begun) bool { return b.part == "QUERY" && b.next() == "" })
}

func isKind(t api.Token, want string) bool {
	switch want {
	case "NAME":
		return t.Kind == api.Word && len(t.Text) <= 8 && !strings.ContainsAny(t.Text, "0123456789") && !slices.Contains(languageWords, t.Text)
	case "NUMBER":
		return t.Kind == api.Number
	case "QUOTE":
		return t.Kind == api.Quote
	}
	return t.Text == want
}

// read is a chart that is gone on with by the tokens of a text, as far as they can stand there: where the first stands that cannot (the length of the text: none), and whether it is a query.
func (c chart) read(text string, l []api.Token) (int, bool) {
	for _, t := range l {
		ok := false
		if c, ok = c.with(t); !ok {
			return t.At, false
		}
	}
	return len(text), c.mayEnd()
}

// tokens are those of a text that has no fault.
func tokens(t *testing.T, text string) []api.Token {
	t.Helper()
	l, f := lex.Tokens(text)
	if f != (api.Fault{}) {
		t.Fatalf("Tokens(%q): %v", text, f)
	}
	return l
}

// hold holds what Parse answers of a text without a fault of chapter 3 against the second reading.
func hold(t *testing.T, text string) {
	t.Helper()
	l := tokens(t, text)
	at, ok := newChart().read(text, l)
	holdRead(t, text, l, at, ok)
}

func holdRead(t *testing.T, text string, l []api.Token, at int, ok bool) {
	t.Helper()
	if ok {
		holdParsed(t, text, pieced(t, text, l))
	} else {
		holdFault(t, text, api.ErrSyntax, at)
	}
}

// pieced is a second reading of the tokens of a query: it cuts them at the words that begin its clauses, and at commas.
func pieced(t *testing.T, text string, l []api.Token) api.Query {
	clauses := map[string][]api.Token{}
	word := ""
	for _, k := range l {
		if slices.Contains([]string{"select", "from", "where", "group", "window", "slide"}, k.Text) {
			word = k.Text
			continue
		}
		clauses[word] = append(clauses[word], k)
	}
	q := api.Query{From: clauses["from"][0].Text}
	if where := clauses["where"]; where != nil {
		q.Where = expression(t, text, where)
	}
	for _, item := range cutAtCommas(clauses["select"]) {
		last := len(item) - 1
		switch what := item[0].Text; {
		case what == "count":
			q.Aggs = append(q.Aggs, counted(item[last].Text))
		case slices.Contains(whats, what):
			q.Aggs = append(q.Aggs, agg(what, expression(t, text, item[2:last-2]), item[last].Text))
		default:
			q.Cols, q.Names = append(q.Cols, expression(t, text, item[:last-1])), append(q.Names, item[last].Text)
		}
	}
	if group := clauses["group"]; group != nil {
		for _, name := range cutAtCommas(group[1:]) {
			q.Group = append(q.Group, name[0].Text)
		}
		q.Size, _ = strconv.Atoi(clauses["window"][0].Text)
		q.Slide = q.Size
	}
	if slide := clauses["slide"]; slide != nil {
		q.Slide, _ = strconv.Atoi(slide[0].Text)
	}
	return q
}

// expression is that of some tokens, in a text that has nothing but blanks around them.
func expression(t *testing.T, text string, l []api.Token) api.Expr {
	last := l[len(l)-1]
	alone := strings.Repeat(" ", l[0].At) + text[l[0].At:last.At+len(last.Text)]
	e, f := tree.Parse(alone)
	if f != (api.Fault{}) {
		t.Fatalf("Parse(%q): %v", alone, f)
	}
	return e
}

// cutAtCommas cuts at those that stand in no brackets.
func cutAtCommas(l []api.Token) [][]api.Token {
	var parts [][]api.Token
	depth, from := 0, 0
	for i, t := range l {
		switch {
		case t.Text == "(":
			depth++
		case t.Text == ")":
			depth--
		case t.Text == "," && depth == 0:
			parts = append(parts, l[from:i])
			from = i + 1
		}
	}
	return append(parts, l[from:])
}

// whole are queries of all forms, in which tokens are put, and left out.
var whole = []string{
	"select a as b from t",
	"select 1 as b, 's' as c, true as d from t",
	"select a + 1 as b, if(a, b, - c) as c from t where not a = len(b) or c",
	"select (a - (b)) * 2 as b from t where (a < b) and c",
	"select count as n from t group by a window 5",
	"select sum(a) as n from t group by a, b, c window 5 slide 2",
	"select most(a) as n, least(- (b)) as m from t where a group by a window 0",
	"select least(if(a, b, c)) as n, count as m, sum(a + b) as u from t where a = 'x' or b group by a, b window 7 slide 7",
}

// TestWhole is of Q1: those queries are read, with blanks between and without.
func TestWhole(t *testing.T) {
	for _, text := range whole {
		l := tokens(t, text)
		if at, ok := newChart().read(text, l); !ok {
			t.Fatalf("%q cannot stand from %d on", text, at)
		}
		if _, f := query.Parse(text); f != (api.Fault{}) {
			t.Fatalf("Parse(%q): %v", text, f)
		}
		hold(t, text)
		for _, between := range []string{" ", "\n", " \n  "} {
			hold(t, between+strings.ReplaceAll(lex.Join(l), " ", between)+between)
		}
		hold(t, tight(l))
	}
}

// tight writes tokens with blanks only where two would be one.
func tight(l []api.Token) string {
	text := ""
	for i, t := range l {
		if i > 0 && t.Kind < api.Sign && l[i-1].Kind < api.Sign {
			text += " "
		}
		text += t.Text
	}
	return text
}

// TestCut is of Q1: each query cut off behind each of its tokens, with blanks behind and without.
func TestCut(t *testing.T) {
	for _, text := range whole {
		for _, k := range tokens(t, text) {
			cut := text[:k.At+len(k.Text)]
			at, ok := newChart().read(cut, tokens(t, cut))
			if at != len(cut) {
				t.Fatalf("%q cannot stand from %d on", cut, at)
			}
			for _, behind := range []string{"", " ", "\n\n  "} {
				if ok {
					hold(t, cut+behind)
				} else {
					holdFault(t, cut+behind, api.ErrSyntax, len(cut+behind))
				}
			}
		}
		hold(t, text[:len(text)/2])
	}
	holdFault(t, "", api.ErrSyntax, 0)
	holdFault(t, " \n ", api.ErrSyntax, 3)
}

// TestPut is of Q1: each token put in each place of each query, ahead of what stands there and instead of it; and each token left out, or set behind the next one.
func TestPut(t *testing.T) {
	for _, text := range whole {
		l := tokens(t, text)
		c, ok := newChart(), true
		for i := range len(l) + 1 {
			for _, put := range everyToken {
				holdPut(t, c, l[:i], put, l[i:])
				holdPut(t, c, l[:i], put, nil)
				if i < len(l) {
					holdPut(t, c, l[:i], put, l[i+1:])
				}
			}
			if i == len(l) {
				break
			}
			hold(t, lex.Join(slices.Concat(l[:i], l[i+1:])))
			if i+1 < len(l) {
				hold(t, lex.Join(slices.Concat(l[:i], []api.Token{l[i+1], l[i]}, l[i+2:])))
			}
			if c, ok = c.with(l[i]); !ok {
				t.Fatalf("%q cannot stand from %d on", text, l[i].At)
			}
		}
	}
}

// holdPut is hold of a text whose beginning is in the chart already.
func holdPut(t *testing.T, c chart, ahead []api.Token, put string, behind []api.Token) {
	t.Helper()
	text := lex.Join(slices.Concat(ahead, []api.Token{{Text: put}}, behind))
	l := tokens(t, text)
	at, ok := c.read(text, l[len(ahead):])
	holdRead(t, text, l, at, ok)
}

// TestEveryBeginning is of Q1: all texts of some tokens, each behind all beginnings of some length that can stand.
func TestEveryBeginning(t *testing.T) {
	holdAll(t, "", everyToken, 3)
	holdAll(t, "select count as a from a", everyToken, 4)
	holdAll(t, "select count as a from a group by a window", everyToken, 4)
	holdAll(t, "select a as a", everyToken, 3)
	holdAll(t, "select sum (", everyToken, 2)
	holdAll(t, "", []string{"select", "count", "sum", "a", "(", ")", ",", "as", "from"}, 9)
	holdAll(t, "select count as a from a", []string{"where", "group", "by", "window", "slide", "a", "7", ",", "-"}, 9)
	holdAll(t, "select a as a", []string{"where", "group", "by", "from", "window", "a", ",", "as", "count"}, 9)
}

// holdAll holds texts of at most n tokens behind a beginning; one that cannot stand is held with others behind it, and no further.
func holdAll(t *testing.T, beginning string, put []string, n int) {
	type text struct {
		l []api.Token
		c chart
	}
	first := text{tokens(t, beginning), newChart()}
	for _, k := range first.l {
		first.c, _ = first.c.with(k)
	}
	last := []text{first}
	for range n {
		var next []text
		for _, b := range last {
			for _, s := range put {
				holdPut(t, b.c, b.l, s, nil)
				l := tokens(t, lex.Join(append(slices.Clip(b.l), api.Token{Text: s})))
				if c, ok := b.c.with(l[len(l)-1]); ok {
					next = append(next, text{l, c})
				} else {
					holdPut(t, b.c, b.l, s, []api.Token{{Text: "a"}})
				}
			}
		}
		last = next
	}
}

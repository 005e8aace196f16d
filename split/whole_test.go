package split_test

import (
	"cmp"
	"math/rand"
	"slices"
	"testing"

	"sluicebook/api"
	"sluicebook/batch"
	"sluicebook/query"
	"sluicebook/row"
	"sluicebook/split"
)

// asked reads a query that is to be one.
func asked(t *testing.T, text string) api.Query {
	t.Helper()
	q, fault := query.Parse(text)
	if fault.How != api.OK {
		t.Fatalf("%q: %v", text, fault)
	}
	return q
}

// run tells what comes of some of the rows, those of the numbers.
func run(t *testing.T, q api.Query, l []api.Col, rows [][]api.Val, numbers []int) []api.Out {
	t.Helper()
	var some [][]api.Val
	for _, i := range numbers {
		some = append(some, rows[i])
	}
	outs, err := batch.Run(q, l, some)
	if err != nil {
		t.Fatalf("%s: %v", show(q, l, some), err)
	}
	return outs
}

// ahead cuts Outs where the first has no Row, and puts those behind in an order that does not hang on how the rows were split.
func ahead(outs []api.Out) (rows, others []api.Out) {
	cut := slices.IndexFunc(outs, func(o api.Out) bool { return len(o.Row) == 0 })
	if cut < 0 {
		return outs, nil
	}
	others = slices.Clone(outs[cut:])
	slices.SortFunc(others, func(a, b api.Out) int { return cmp.Or(cmp.Compare(a.Err, b.Err), a.From-b.From) })
	return outs[:cut], others
}

// holdWhole holds that what parts tell, joined, is what all rows do; it gives that.
func holdWhole(t *testing.T, text string, l []api.Col, rows [][]api.Val, cols []int, n int) []api.Out {
	t.Helper()
	q := asked(t, text)
	parts, err := split.Parts(rows, cols, n)
	if err != nil || len(parts) != n {
		t.Fatalf("%s: %v, %v", show(rows, cols, n), parts, err)
	}
	var each [][]api.Out
	for _, numbers := range parts {
		each = append(each, run(t, q, l, rows, numbers))
	}
	var numbers []int
	for i := range rows {
		numbers = append(numbers, i)
	}
	whole, errWhole := split.Join([][]api.Out{run(t, q, l, rows, numbers)}, len(q.Group))
	joined, err := split.Join(each, len(q.Group))
	gotRows, gotOthers := ahead(joined)
	wantRows, wantOthers := ahead(whole)
	if err != nil || errWhole != nil || !slices.EqualFunc(gotRows, wantRows, sameOuts) || !slices.EqualFunc(gotOthers, wantOthers, sameOuts) {
		t.Errorf("%s\n%s\ngot  %v, %v\nwant %v, %v", text, show(l, rows, cols, n), joined, err, whole, errWhole)
	}
	return joined
}

// TestWhole is of D1 and D2: rows that were split by a group's columns, each part run for itself, and joined.
func TestWhole(t *testing.T) {
	l, err := row.ParseSchema("at int,k text,n int")
	if err != nil {
		t.Fatal(err)
	}
	var rows [][]api.Val
	for _, text := range []string{"1,'b',4", "3,'a',0", "4,'b',2", "-5,'a',1", "12,'a',3", "14,'c',0", "14,'b',5", "27,'c',1", "27,'c',7"} {
		r, err := row.Parse(text)
		if err != nil {
			t.Fatal(err)
		}
		rows = append(rows, r)
	}
	for _, c := range []struct {
		text string
		want []api.Out
	}{
		{"select count as c, sum(n) as m from s group by k window 10", []api.Out{
			of(0, words("a"), number(1), number(0)), of(0, words("b"), number(2), number(6)),
			of(10, words("a"), number(1), number(3)), of(10, words("b"), number(1), number(5)), of(10, words("c"), number(1), number(0)),
			of(20, words("c"), number(2), number(8)), fault(0, api.ErrRange)}},
		{"select least(12 / n) as m from s where at > 1 group by n, k window 10", []api.Out{
			of(0, number(2), words("b"), number(6)),
			of(10, number(3), words("a"), number(4)), of(10, number(5), words("b"), number(2)),
			of(20, number(1), words("c"), number(12)), of(20, number(7), words("c"), number(1)),
			fault(0, api.ErrRange), fault(0, api.ErrOver), fault(0, api.ErrOver)}},
	} {
		for n := 1; n <= 8; n++ {
			got := holdWhole(t, c.text, l, rows, []int{1}, n)
			_, others := ahead(got)
			wantRows, wantOthers := ahead(c.want)
			if !slices.EqualFunc(got[:len(wantRows)], wantRows, sameOuts) || !slices.EqualFunc(others, wantOthers, sameOuts) {
				t.Errorf("%s of %d: %v, want %v", c.text, n, got, c.want)
			}
		}
	}
}

// TestWholeByChance is of D1 and D2: queries with a group, rows and numbers of parts by chance.
func TestWholeByChance(t *testing.T) {
	c := chooser{Rand: rand.New(rand.NewSource(20))}
	met := map[api.Errno]int{}
	several := 0
	for i := range 3_000 {
		c.cols()
		text, group := c.query()
		count := c.Intn(40)
		if i%30 == 0 && !slices.ContainsFunc(group, func(place int) bool { return c.l[place].Name == "at" }) {
			count = 300
		}
		rows := c.rows(count, oneOf(c, 0, 1, 1, 2, 6))
		// Rows of one group come to one part, whichever of the group's columns tell it.
		cols := group[:1+c.Intn(len(group))]
		if q := asked(t, text); isFull(t, q, c.l, rows) {
			met[api.ErrFull]++
			continue
		}
		n := 1 + c.Intn(8)
		for _, o := range holdWhole(t, text, c.l, rows, cols, n) {
			met[o.Err]++
		}
		if parts, _ := split.Parts(rows, cols, n); len(filled(parts)) > 2 {
			several++
		}
	}
	if met[api.OK] < 10_000 || met[api.ErrOver] < 500 || met[api.ErrRange] < 500 || met[api.ErrFull] > 500 || several < 500 {
		t.Errorf("%v, %d of several parts", met, several)
	}
}

// isFull tells of more groups than may be, of which a part has fewer, so that there it is told otherwise.
func isFull(t *testing.T, q api.Query, l []api.Col, rows [][]api.Val) bool {
	t.Helper()
	outs, err := batch.Run(q, l, rows)
	if err != nil {
		t.Fatalf("%s: %v", show(q, l, rows), err)
	}
	return slices.ContainsFunc(outs, func(o api.Out) bool { return o.Err == api.ErrFull })
}

func filled(parts [][]int) [][]int {
	return slices.DeleteFunc(slices.Clone(parts), func(l []int) bool { return len(l) == 0 })
}

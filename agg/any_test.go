package agg_test

import (
	"math/rand"
	"slices"
	"testing"
	"unsafe"

	"sluicebook/agg"
	"sluicebook/api"
	"sluicebook/plain"
)

// wild gives a value of whatever is in reach.
func wild(r *rand.Rand) api.Val {
	v := api.Val{Type: r.Intn(6) - 1}
	if r.Intn(9) == 0 {
		v.Type = far()[r.Intn(len(far()))]
	}
	if r.Intn(2) == 0 {
		v.N = far()[r.Intn(len(far()))]
	}
	if r.Intn(2) == 0 {
		s := make([]byte, r.Intn(44))
		for i := range s {
			s[i] = byte(r.Intn(256))
		}
		v.S = string(s)
	}
	return v
}

// TestAnyInput is of P1: no call panics, whatever it is handed, and all of it is told as the model does.
func TestAnyInput(t *testing.T) {
	r := rand.New(rand.NewSource(13))
	whats := []string{"count", "sum", "least", "most", "count", "sum", "least", "most", "", "all", "most\x00"}
	var last pair
	for range 20_000 {
		l, types := make([]api.Agg, r.Intn(5)), make([]int, r.Intn(5))
		if r.Intn(8) > 0 {
			types = make([]int, len(l))
		}
		for i := range l {
			l[i].What = whats[r.Intn(len(whats))]
		}
		for i := range types {
			types[i] = r.Intn(4) + r.Intn(10)/9*far()[r.Intn(len(far()))]
		}
		m, how := made(l, types)
		holdNew(t, l, types, how)
		if how != api.OK {
			continue
		}
		p := begun(t, l, types)
		for range 5 {
			row := make([]api.Val, max(0, len(l)+r.Intn(9)/8-r.Intn(9)/8))
			for i := range row {
				row[i] = wild(r)
				if i < len(m.types) && r.Intn(3) > 0 {
					row[i] = chance(r, m.types[i])
				}
			}
			p.tryAdd(t, row)
		}
		if last.acc != nil {
			p.join(t, last)
		}
		last = p
	}
}

// TestEndlessOf is of P1: an expression that stands in itself is no matter of an Acc's.
func TestEndlessOf(t *testing.T) {
	e := api.Expr{Op: "+", Args: make([]api.Expr, 2)}
	e.Args[0], e.Args[1] = e, e
	p := begun(t, []api.Agg{{What: "sum", Of: e}, {What: "count", Of: e}}, []int{1, 1})
	p.add(t, []api.Val{number(1), number(1)})
	joined(t, p, begun(t, []api.Agg{{What: "sum", Of: e}, {What: "count"}}, []int{1, 1}))
}

// loose is a text whose memory is written over by the function that comes with it, as a caller's might be.
func loose(s string) (string, func()) {
	b := []byte(s)
	return unsafe.String(unsafe.SliceData(b), len(b)), func() {
		for i := range b {
			b[i] = '#'
		}
	}
}

// TestNothingKept is of P2: aggs, types and values may be written over behind the call.
func TestNothingKept(t *testing.T) {
	what, overWhat := loose("least")
	other, overOther := loose("most")
	l := []api.Agg{{What: what}, {What: other}, {What: "sum"}}
	types := []int{3, 3, 1}
	a, err := agg.New(l, types)
	if err != nil {
		t.Fatal(err)
	}
	overWhat()
	overOther()
	clear(l)
	clear(types)
	for _, s := range []string{"m", "z", "c", "n"} {
		text, over := loose(s)
		row := []api.Val{words(text), words(text), number(1)}
		if err := a.Add(row); err != nil {
			t.Fatal(err)
		}
		over()
		clear(row)
	}
	want := []api.Val{words("c"), words("z"), number(4)}
	holdResult(t, a, want, api.OK, 4)
	b := of(t, "least most sum", []int{3, 3, 1}, nil)
	if err := b.acc.Join(a); err != nil {
		t.Fatal(err)
	}
	holdResult(t, b.acc, want, api.OK, 4)
}

// roomy is a list with others behind its end.
func roomy[T any](l []T, behind T) []T {
	return append(slices.Clone(l), behind, behind, behind)[:len(l)]
}

// behind are those behind a list's end.
func behind[T any](l []T) []T { return l[len(l) : len(l)+3] }

// TestNothingWritten is of P2 and P4: no list that is handed in is written into, nor what lies behind it read.
func TestNothingWritten(t *testing.T) {
	spareAgg, spareVal := api.Agg{What: "all", Name: "x"}, api.Val{Type: 9, N: 9, S: "\n"}
	wantRow := []api.Val{words("x"), number(1), {Type: 5}, truth(true)}
	for _, types := range [][]int{{3, 1, 0, 2}, {3, 3, 0, 2}, {3, 1, 0, 4}, {3, 1, 0}} {
		l := []api.Agg{{What: "least", Name: "a"}, {What: "sum", Name: "b"}, {What: "count", Name: "c"}, {What: "most", Name: "d"}}
		roomyAggs, roomyTypes := roomy(l, spareAgg), roomy(types, 77)
		a, err := agg.New(roomyAggs, roomyTypes)
		for i, g := range roomyAggs {
			if g.What != l[i].What || g.Name != l[i].Name {
				t.Error("aggs are others")
			}
		}
		for _, g := range behind(roomyAggs) {
			if g.What != spareAgg.What || g.Name != spareAgg.Name {
				t.Error("aggs behind are others")
			}
		}
		if !slices.Equal(roomyTypes, types) || !slices.Equal(behind(roomyTypes), []int{77, 77, 77}) {
			t.Error("types are others")
		}
		if err != nil {
			continue
		}
		for _, want := range [][]api.Val{wantRow, wantRow[:3], append(slices.Clone(wantRow[:3]), number(1))} {
			row := roomy(want, spareVal)
			_ = a.Add(row)
			if !slices.Equal(row, want) || !slices.Equal(behind(row), []api.Val{spareVal, spareVal, spareVal}) {
				t.Error("a row is another one")
			}
		}
		holdResult(t, a, []api.Val{words("x"), number(1), number(1), truth(true)}, api.OK, 1)
	}
}

// TestResultsFresh is of P2: what comes out is the caller's, and shares nothing with what is kept, or with what comes again.
func TestResultsFresh(t *testing.T) {
	rows := mixedRows()
	p := of(t, mixedWhats, mixedTypes(), rows)
	o := begun(t, aggs(mixedWhats), mixedTypes())
	joined(t, o, p)
	texts := map[*byte]int{}
	for _, r := range rows {
		for _, v := range r {
			if v.S != "" {
				texts[unsafe.StringData(v.S)]++
			}
		}
	}
	var all [][]api.Val
	for range 3 {
		for _, a := range []*agg.Acc{p.acc, o.acc} {
			l, err := a.Result()
			if err != nil || !slices.Equal(l, mixedResult()) {
				t.Fatalf("%v, %v", l, err)
			}
			for _, v := range l {
				if v.S != "" && texts[unsafe.StringData(v.S)] > 0 {
					t.Errorf("%q shares memory", v.S)
				}
				if v.S != "" {
					texts[unsafe.StringData(v.S)]++
				}
			}
			clear(l[:cap(l)])
			all = append(all, l)
		}
	}
	for _, l := range all {
		if slices.ContainsFunc(l, func(v api.Val) bool { return v != api.Val{} }) {
			t.Error("written into by a later call")
		}
	}
}

// TestApart is of P2: what is made of the same aggs goes on by itself.
func TestApart(t *testing.T) {
	l, types := aggs("sum most"), []int{1, 3}
	a, b := begun(t, l, types), begun(t, l, types)
	a.add(t, []api.Val{number(1), words("x")})
	holdResult(t, b.acc, nil, api.ErrNone, 0)
	b.add(t, []api.Val{number(5), words("a")})
	holdResult(t, a.acc, []api.Val{number(1), words("x")}, api.OK, 1)
	holdResult(t, b.acc, []api.Val{number(5), words("a")}, api.OK, 1)
	if plain.Told(a.acc.Join(a.acc)) != api.OK || b.acc.Count() != 1 {
		t.Error("not by itself")
	}
}

package agg_test

import (
	"math"
	"math/rand"
	"slices"
	"strings"
	"testing"
	"unsafe"

	"sluicebook/agg"
	"sluicebook/api"
	"sluicebook/plain"
)

// learned gives a new Acc of the same aggs and types that Learned what that one knows, beside a model of its own.
func learned(t *testing.T, p pair) pair {
	t.Helper()
	l := aggs(strings.Join(p.model.whats, " "))
	a, err := agg.New(l, p.model.types)
	if err != nil {
		t.Fatal(err)
	}
	if err := a.Learn(p.acc.Known()); err != nil {
		t.Fatalf("Learn(%+v): %v", p.acc.Known(), err)
	}
	m := *p.model
	m.rows = slices.Clone(m.rows)
	o := pair{a, &m}
	o.hold(t)
	return o
}

// TestLearn is of snap's P1: what Learned what another one knew goes on as that would, at each place, and neither touches the other.
func TestLearn(t *testing.T) {
	rows := mixedRows()
	for place := range len(rows) + 1 {
		p := of(t, mixedWhats, mixedTypes(), rows[:place])
		o := learned(t, p)
		for _, r := range rows[place:] {
			o.add(t, r)
			p.hold(t)
		}
		holdResult(t, o.acc, mixedResult(), api.OK, len(rows))
		p.add(t, rows[0])
		o.hold(t)
		joined(t, p, learned(t, o))
	}
	for _, whats := range []string{"", "count", "count count"} {
		p := of(t, whats, make([]int, len(aggs(whats))), slices.Repeat([][]api.Val{make([]api.Val, len(aggs(whats)))}, 3))
		learned(t, p).add(t, make([]api.Val, len(aggs(whats))))
	}
}

// TestLearnAnew is of snap's P1: what it knew ahead is forgotten, and it may Learn what itself knew.
func TestLearnAnew(t *testing.T) {
	p, o := of(t, mixedWhats, mixedTypes(), mixedRows()), begun(t, aggs(mixedWhats), mixedTypes())
	none, all := o.acc.Known(), p.acc.Known()
	for range 2 {
		for _, c := range []struct {
			k    agg.Known
			want []api.Val
			how  api.Errno
			rows int
		}{{all, mixedResult(), api.OK, 6}, {none, nil, api.ErrNone, 0}} {
			if err := p.acc.Learn(c.k); err != nil {
				t.Fatal(err)
			}
			holdResult(t, p.acc, c.want, c.how, c.rows)
		}
	}
}

// TestLearnSums is of snap's P1: sums that went far over, by more than one word, and come back behind it.
func TestLearnSums(t *testing.T) {
	for _, far := range []int{math.MaxInt, math.MinInt, -1, 0, 1} {
		p := begun(t, aggs("sum"), []int{1})
		for range 9 {
			p.add(t, []api.Val{number(far)})
			o := learned(t, p)
			for range 9 {
				o.add(t, []api.Val{number(-1 - far)})
				o = learned(t, o)
			}
		}
	}
}

// TestLearnByChance is of snap's P1: Accs by chance, which are Added to, Joined, and Learn of each other.
func TestLearnByChance(t *testing.T) {
	r := rand.New(rand.NewSource(16))
	all := []string{"count", "sum", "least", "most"}
	for range 500 {
		var whats []string
		var types []int
		for range r.Intn(7) {
			whats, types = append(whats, all[r.Intn(4)]), append(types, 1+r.Intn(3))
			if n := len(whats) - 1; whats[n] == "sum" {
				types[n] = api.Int
			}
		}
		p := of(t, strings.Join(whats, " "), types, nil)
		for range r.Intn(12) {
			row := make([]api.Val, len(whats))
			for i, typ := range types {
				row[i] = chance(r, typ)
			}
			p.tryAdd(t, row)
			switch r.Intn(4) {
			case 0:
				p = learned(t, p)
			case 1:
				p.join(t, learned(t, p))
			}
		}
	}
}

// TestLearnShape is of snap's P1: what aggregates do not find is refused, and nothing is changed.
func TestLearnShape(t *testing.T) {
	sum := func(l ...uint64) agg.Found { return agg.Found{Sum: l} }
	best := func(v api.Val) agg.Found { return agg.Found{Best: v} }
	const top = math.MaxUint64
	for _, c := range []struct {
		whats string
		typ   int
		rows  int
		how   api.Errno
		parts []agg.Found
	}{
		{"", 0, 0, api.OK, nil},
		{"", 0, math.MaxInt, api.OK, nil},
		{"", 0, -1, api.ErrShape, nil},
		{"", 0, 1, api.ErrShape, []agg.Found{{}}},
		{"count", 0, 1, api.ErrShape, nil},
		{"count", 0, 1, api.OK, []agg.Found{{}}},
		{"count", 0, 0, api.OK, []agg.Found{{}}},
		{"count", 0, 1, api.OK, []agg.Found{sum()}},
		{"count", 0, 1, api.ErrShape, []agg.Found{sum(1)}},
		{"count", 0, 1, api.ErrShape, []agg.Found{best(number(1))}},
		{"count", 0, 1, api.ErrShape, []agg.Found{best(api.Val{N: 1})}},
		{"count", 0, 1, api.ErrShape, []agg.Found{best(api.Val{S: "x"})}},
		{"sum", 1, 1, api.OK, []agg.Found{sum(5)}},
		{"sum", 1, 1, api.OK, []agg.Found{sum(0)}},
		{"sum", 1, 1, api.OK, []agg.Found{sum(top)}},
		{"sum", 1, 0, api.OK, []agg.Found{sum()}},
		{"sum", 1, 0, api.ErrShape, []agg.Found{sum(0)}},
		{"sum", 1, 1, api.ErrShape, []agg.Found{sum()}},
		{"sum", 1, 1, api.OK, []agg.Found{sum(5, 1)}},
		{"sum", 1, 1, api.OK, []agg.Found{sum(1<<63, 0)}},
		{"sum", 1, 1, api.OK, []agg.Found{sum(1<<63-1, top)}},
		{"sum", 1, 1, api.ErrShape, []agg.Found{sum(5, 0)}},
		{"sum", 1, 1, api.ErrShape, []agg.Found{sum(1<<63, top)}},
		{"sum", 1, 1, api.ErrShape, []agg.Found{sum(5, 1, 0)}},
		{"sum", 1, 1, api.ErrShape, []agg.Found{{Sum: []uint64{5}, Best: number(5)}}},
		{"sum", 1, -1, api.ErrShape, []agg.Found{sum(5)}},
		{"least", 1, 1, api.OK, []agg.Found{best(number(5))}},
		{"least", 1, 0, api.OK, []agg.Found{{}}},
		{"least", 1, 1, api.ErrShape, []agg.Found{{}}},
		{"least", 1, 0, api.ErrShape, []agg.Found{best(number(5))}},
		{"most", 1, 1, api.ErrShape, []agg.Found{best(words("5"))}},
		{"most", 3, 1, api.OK, []agg.Found{best(words("5"))}},
		{"most", 3, 1, api.ErrShape, []agg.Found{best(words("\n"))}},
		{"most", 3, 1, api.ErrShape, []agg.Found{best(words(strings.Repeat("x", 41)))}},
		{"most", 3, 1, api.ErrShape, []agg.Found{best(api.Val{Type: api.Text, N: 1})}},
		{"most", 2, 1, api.ErrShape, []agg.Found{best(api.Val{Type: api.Bool, N: 2})}},
		{"most", 2, 1, api.ErrShape, []agg.Found{best(api.Val{N: 1})}},
		{"most", 1, 1, api.ErrShape, []agg.Found{{Sum: []uint64{5}, Best: number(5)}}},
		{"most least", 1, 1, api.OK, []agg.Found{best(number(5)), best(number(6))}},
		{"most least", 1, 1, api.ErrShape, []agg.Found{best(number(5)), best(words("6"))}},
		{"most least", 1, 1, api.ErrShape, []agg.Found{best(number(5))}},
		{"most sum", 1, 1, api.ErrShape, []agg.Found{sum(5), best(number(6))}},
	} {
		types := slices.Repeat([]int{c.typ}, len(aggs(c.whats)))
		p := begun(t, aggs(c.whats), types)
		for round := range 2 {
			if how := plain.Told(p.acc.Learn(agg.Known{Rows: c.rows, Parts: c.parts})); how != c.how {
				t.Errorf("%s of %d, %d rows, %v: got %v, want %v", c.whats, c.typ, c.rows, c.parts, how, c.how)
			}
			if c.how == api.OK {
				break
			}
			p.hold(t)
			if v := map[int]api.Val{0: {}, 1: number(4), 2: truth(true), 3: words("x")}[c.typ]; round == 0 {
				p.add(t, slices.Repeat([]api.Val{v}, len(types)))
			}
		}
	}
}

// TestCountGreatest is of snap's P1: one that Learned of as many rows as a number can tell stays at that.
func TestCountGreatest(t *testing.T) {
	p := begun(t, aggs("count"), []int{0})
	if err := p.acc.Learn(agg.Known{Rows: math.MaxInt - 1, Parts: []agg.Found{{}}}); err != nil {
		t.Fatal(err)
	}
	for range 3 {
		if err := p.acc.Add(make([]api.Val, 1)); err != nil {
			t.Fatal(err)
		}
		holdResult(t, p.acc, []api.Val{number(math.MaxInt)}, api.OK, math.MaxInt)
	}
}

// TestKnownFresh is of P2: what is known comes out fresh, and what is Learned is not kept.
func TestKnownFresh(t *testing.T) {
	p := of(t, mixedWhats, mixedTypes(), mixedRows())
	k, again := p.acc.Known(), p.acc.Known()
	var overs []func()
	for i := range k.Parts {
		a, b := k.Parts[i], again.Parts[i]
		if a.Best.S != "" && unsafe.StringData(a.Best.S) == unsafe.StringData(b.Best.S) {
			t.Errorf("%d: %q shares memory", i, a.Best.S)
		}
		text, over := loose(a.Best.S)
		k.Parts[i].Best.S = text
		overs = append(overs, over, func() { clear(a.Sum) })
	}
	o := begun(t, aggs(mixedWhats), mixedTypes())
	if err := o.acc.Learn(k); err != nil {
		t.Fatal(err)
	}
	for _, over := range overs {
		over()
	}
	clear(k.Parts)
	clear(again.Parts)
	p.hold(t)
	holdResult(t, o.acc, mixedResult(), api.OK, 6)
}

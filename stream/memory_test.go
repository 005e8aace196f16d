package stream_test

import (
	"fmt"
	"runtime"
	"slices"
	"testing"
	"unsafe"

	"sluicebook/api"
	"sluicebook/stream"
)

// The queries of which each tells texts that come from columns, from values in the query, and from aggregates.
var telling = []string{
	"select k as p, 'own' as q, if(at > 1, k, 'own') as r from s where k <> 'no'",
	"select least(k) as p, most('own') as q, most(if(at > 1, k, 'own')) as r from s where k <> 'no' group by k, t window 4 slide 2",
	"select count as n, sum(at * 9223372036854775807) as p from s group by k, t window 4 slide 2",
}

const tellingRows = "1,'a','x' -1,'b','y' 2,'b','y' 2,'no','x' 1,'c','z' 3,'a','x' 3,'aa','z' 5,'a','y' 9,'c','z'"

func tellingCols(t *testing.T) []api.Col { return heads(t, "at int,k text,t text") }

// TestNothingWritten is of P2 and P4: no list that is handed in is written into, nor what lies behind it; nor is that read.
func TestNothingWritten(t *testing.T) {
	for _, text := range telling {
		q, l, rows := asked(t, text), roomy(tellingCols(t), api.Col{Name: "at", Type: 9}), table(t, tellingRows)
		q.Cols, q.Names = roomy(q.Cols, api.Expr{Op: "nor"}), roomy(q.Names, "p")
		q.Group, q.Aggs = roomy(q.Group, "k"), roomy(q.Aggs, api.Agg{What: "all"})
		rows = append(rows, nil, rows[0][:1], slices.Repeat(rows[0], 2))
		for i, r := range rows {
			rows[i] = roomy(r, api.Val{Type: 9})
		}
		all := func() string {
			s := fmt.Sprint(q, l[:cap(l)], q.Cols[:cap(q.Cols)], q.Names[:cap(q.Names)], q.Group[:cap(q.Group)], q.Aggs[:cap(q.Aggs)])
			for _, r := range rows {
				s += fmt.Sprint(r[:cap(r)])
			}
			return s
		}
		ahead := all()
		p := newPair(t, q, l)
		for range 2 {
			p.all(t, rows)
		}
		if got := all(); got != ahead {
			t.Errorf("%s: %s is now %s", text, ahead, got)
		}
	}
}

// roomy is a list with others behind its end.
func roomy[T any](l []T, behind T) []T {
	return append(slices.Clone(l), behind, behind, behind)[:len(l)]
}

// TestNothingKept is of P2: query, columns and rows may be written over by the caller behind the call.
func TestNothingKept(t *testing.T) {
	for _, text := range telling {
		m := newModel(asked(t, text), tellingCols(t))
		var over overs
		q, l := over.query(asked(t, text)), over.cols(tellingCols(t))
		s, err := stream.New(q, l)
		if err != nil {
			t.Fatalf("%s: %v", text, err)
		}
		over.all()
		for round := range 3 {
			for _, r := range table(t, tellingRows) {
				want, _ := m.Push(r)
				got, err := s.Push(over.row(r))
				over.all()
				if !slices.EqualFunc(got, want, sameOuts) || err != nil {
					t.Errorf("%s: %d: %v: %v, %v, want %v", text, round, r, got, err, want)
				}
			}
			if got, want := s.Close(), m.Close(); !slices.EqualFunc(got, want, sameOuts) {
				t.Errorf("%s: %d: Close: %v, want %v", text, round, got, want)
			}
		}
	}
}

// overs are what is to be done to write over all memory that was handed in.
type overs []func()

func (o *overs) all() {
	for _, do := range *o {
		do()
	}
	*o = nil
}

// text is one whose memory is written over later, as a caller's might be.
func (o *overs) text(s string) string {
	b := []byte(s)
	*o = append(*o, func() {
		for i := range b {
			b[i] = '#'
		}
	})
	return unsafe.String(unsafe.SliceData(b), len(b))
}

func (o *overs) texts(l []string) []string {
	return loose(o, l, o.text)
}

// loose is a list like that one, of loose things, which is cleared later.
func loose[T any](o *overs, l []T, each func(T) T) []T {
	l = slices.Clone(l)
	for i, v := range l {
		l[i] = each(v)
	}
	*o = append(*o, func() { clear(l) })
	return l
}

func (o *overs) val(v api.Val) api.Val {
	v.S = o.text(v.S)
	return v
}

func (o *overs) row(r []api.Val) []api.Val { return loose(o, r, o.val) }

func (o *overs) cols(l []api.Col) []api.Col {
	return loose(o, l, func(c api.Col) api.Col { return api.Col{Name: o.text(c.Name), Type: c.Type} })
}

func (o *overs) expr(e api.Expr) api.Expr {
	return api.Expr{Op: o.text(e.Op), Name: o.text(e.Name), Val: o.val(e.Val), Args: loose(o, e.Args, o.expr), At: e.At}
}

func (o *overs) agg(a api.Agg) api.Agg {
	return api.Agg{What: o.text(a.What), Of: o.expr(a.Of), Name: o.text(a.Name)}
}

func (o *overs) query(q api.Query) api.Query {
	return api.Query{
		From: o.text(q.From), Where: o.expr(q.Where), Cols: loose(o, q.Cols, o.expr), Names: o.texts(q.Names),
		Group: o.texts(q.Group), Size: q.Size, Slide: q.Slide, Aggs: loose(o, q.Aggs, o.agg),
	}
}

// TestFresh is of P2: what comes out shares no memory with what was handed in, nor with what else comes out, and the caller may write over it.
func TestFresh(t *testing.T) {
	for _, text := range telling {
		q, l, rows := asked(t, text), tellingCols(t), table(t, tellingRows)
		seen := map[*byte]bool{}
		for _, e := range q.Cols {
			noteExpr(seen, e)
		}
		for _, a := range q.Aggs {
			noteExpr(seen, a.Of)
		}
		noteExpr(seen, q.Where)
		for _, r := range rows {
			noteTexts(seen, r)
		}
		s, m := made(t, q, l), newModel(q, l)
		var told int
		for range 3 {
			for _, r := range rows {
				got, _ := s.Push(r)
				want, _ := m.Push(r)
				told += holdFresh(t, seen, got, want)
			}
			told += holdFresh(t, seen, s.Close(), m.Close())
		}
		if told < 20 {
			t.Errorf("%s: %d Outs", text, told)
		}
	}
}

// holdFresh holds Outs, and where their texts lie; then it writes over all of them, as far as their memory goes, one by one.
func holdFresh(t *testing.T, seen map[*byte]bool, got, want []api.Out) int {
	t.Helper()
	for i, o := range got {
		if i >= len(want) || !sameOuts(o, want[i]) || len(got) != len(want) {
			t.Errorf("%v, want %v", got, want)
			return 0
		}
		if !noteTexts(seen, o.Row) {
			t.Errorf("a text of %v is shared", o.Row)
		}
		whole := o.Row[:cap(o.Row)]
		for j := range whole {
			whole[j] = api.Val{Type: api.Text, S: "written over"}
		}
	}
	n := len(got)
	clear(got[:cap(got)])
	return n
}

// noteTexts notes where texts lie; false: one of them lies where one did.
func noteTexts(seen map[*byte]bool, row []api.Val) bool {
	apart := true
	for _, v := range row {
		if v.S == "" {
			continue
		}
		at := unsafe.StringData(v.S)
		apart = apart && !seen[at]
		seen[at] = true
	}
	return apart
}

func noteExpr(seen map[*byte]bool, e api.Expr) {
	noteTexts(seen, []api.Val{e.Val})
	for _, a := range e.Args {
		noteExpr(seen, a)
	}
}

// TestForgets is of S1: as it may be Pushed however often, what it knows does not grow with how many rows there were.
func TestForgets(t *testing.T) {
	for _, text := range []string{"select k as p from s", "select count as n, sum(at) as m, most(k) as o from s group by t window 20 slide 10"} {
		s := made(t, asked(t, text), tellingCols(t))
		at := 0
		several := func(n int) uint64 {
			for range n {
				at++
				if _, err := s.Push([]api.Val{number(at), words(fmt.Sprint("k", at)), words(fmt.Sprint("t", at%5))}); err != nil {
					t.Error(err)
				}
			}
			runtime.GC()
			var all runtime.MemStats
			runtime.ReadMemStats(&all)
			return all.HeapAlloc
		}
		first := several(1_000)
		if last := several(20_000); last > first+1_000_000 {
			t.Errorf("%s: %d bytes behind 1000 rows, and %d behind all", text, first, last)
		}
		runtime.KeepAlive(s)
	}
}

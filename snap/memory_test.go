package snap_test

import (
	"fmt"
	"runtime"
	"slices"
	"testing"
	"unsafe"

	"sluicebook/api"
	"sluicebook/snap"
)

// The queries of which each tells texts that come from columns, from values in the query, and from aggregates.
var telling = []string{
	"select k as p, 'own' as q, if(at > 1, k, 'own') as r from s where k <> 'no'",
	"select least(k) as p, most('own') as q, most(if(at > 1, k, 'own')) as r from s where k <> 'no' group by k, t window 4 slide 2",
	"select count as n, sum(at * 9223372036854775807) as p from s group by k, t window 4 slide 2",
}

const tellingRows = "1,'a','x' -1,'b','y' 2,'b','y' 2,'no','x' 1,'c','z' 3,'a','x' 3,'aa','z' 5,'a','y' 9,'c','z'"

func tellingCols(t *testing.T) []api.Col { return heads(t, "at int,k text,t text") }

// TestNothingWritten is of P2 and P4 of DOC.md: no list that is handed in is written into, nor what lies behind it; nor is that read.
func TestNothingWritten(t *testing.T) {
	for _, text := range telling {
		q, l := asked(t, text), roomy(tellingCols(t), api.Col{Name: "at", Type: 9})
		q.Cols, q.Names = roomy(q.Cols, api.Expr{Op: "nor"}), roomy(q.Names, "p")
		q.Group, q.Aggs = roomy(q.Group, "k"), roomy(q.Aggs, api.Agg{What: "all"})
		all := func() string {
			return fmt.Sprint(q, l[:cap(l)], q.Cols[:cap(q.Cols)], q.Names[:cap(q.Names)], q.Group[:cap(q.Group)], q.Aggs[:cap(q.Aggs)])
		}
		ahead := all()
		p := newPair(t, q, l)
		for _, r := range table(t, tellingRows) {
			p = p.twin(t)
			p.push(t, r)
			holdError(t, q, l, snap.Save(p.s)+"x", api.ErrSyntax)
		}
		p.close(t)
		if got := all(); got != ahead {
			t.Errorf("%s: %s is now %s", text, ahead, got)
		}
	}
}

// roomy is a list with others behind its end.
func roomy[T any](l []T, behind T) []T {
	return append(slices.Clone(l), behind, behind, behind)[:len(l)]
}

// TestNothingKept is of P2 of DOC.md: query, columns, rows, and the text that was loaded may be written over by the caller behind the call.
func TestNothingKept(t *testing.T) {
	for _, text := range telling {
		p := newPair(t, asked(t, text), tellingCols(t))
		rows := table(t, tellingRows)
		for i, r := range rows {
			var over overs
			q, l, saved := over.query(asked(t, text)), over.cols(tellingCols(t)), over.text(snap.Save(p.s))
			s, err := snap.Load(q, l, saved)
			if err != nil {
				t.Fatalf("%s: %v", text, err)
			}
			over.all()
			o := &pair{p.q, p.l, s, p.m.twin()}
			o.hold(t)
			for _, r := range rows[i:] {
				loose := over.row(r)
				got, err := s.Push(loose)
				over.all()
				if want, _ := o.m.Push(r); !slices.EqualFunc(got, want, sameOuts) || err != nil {
					t.Errorf("%s: %d: %v: %v, %v, want %v", text, i, r, got, err, want)
				}
				o.hold(t)
			}
			o.twin(t).all(t, rows)
			o.close(t)
			p.push(t, r)
		}
	}
}

// overs are what is to be done to write over all memory that was handed in.
type overs []func()

func (o *overs) all() {
	for _, do := range *o {
		do()
	}
	*o = nil
}

// text is one whose memory is written over later, as a caller's might be.
func (o *overs) text(s string) string {
	b := []byte(s)
	*o = append(*o, func() {
		for i := range b {
			b[i] = '#'
		}
	})
	return unsafe.String(unsafe.SliceData(b), len(b))
}

func (o *overs) texts(l []string) []string {
	return loose(o, l, o.text)
}

// loose is a list like that one, of loose things, which is cleared later.
func loose[T any](o *overs, l []T, each func(T) T) []T {
	l = slices.Clone(l)
	for i, v := range l {
		l[i] = each(v)
	}
	*o = append(*o, func() { clear(l) })
	return l
}

func (o *overs) val(v api.Val) api.Val {
	v.S = o.text(v.S)
	return v
}

func (o *overs) row(r []api.Val) []api.Val { return loose(o, r, o.val) }

func (o *overs) cols(l []api.Col) []api.Col {
	return loose(o, l, func(c api.Col) api.Col { return api.Col{Name: o.text(c.Name), Type: c.Type} })
}

func (o *overs) expr(e api.Expr) api.Expr {
	return api.Expr{Op: o.text(e.Op), Name: o.text(e.Name), Val: o.val(e.Val), Args: loose(o, e.Args, o.expr), At: e.At}
}

func (o *overs) agg(a api.Agg) api.Agg {
	return api.Agg{What: o.text(a.What), Of: o.expr(a.Of), Name: o.text(a.Name)}
}

func (o *overs) query(q api.Query) api.Query {
	return api.Query{
		From: o.text(q.From), Where: o.expr(q.Where), Cols: loose(o, q.Cols, o.expr), Names: o.texts(q.Names),
		Group: o.texts(q.Group), Size: q.Size, Slide: q.Slide, Aggs: loose(o, q.Aggs, o.agg),
	}
}

// TestFresh is of P2 of DOC.md: what comes out shares no memory with what was handed in, nor with what else comes out, and the caller may write over it: of Peek, and of the Streams behind it.
func TestFresh(t *testing.T) {
	for _, text := range telling[1:] {
		q, l := asked(t, text), tellingCols(t)
		p := newPair(t, q, l)
		seen := map[*byte]bool{}
		for _, a := range q.Aggs {
			noteExpr(seen, a.Of)
		}
		var told int
		for _, r := range table(t, tellingRows) {
			noteTexts(seen, r)
			p.push(t, r)
			saved := snap.Save(p.s)
			if at := unsafe.StringData(saved); seen[at] || at == unsafe.StringData(snap.Save(p.s)) {
				t.Errorf("%s: a saved text is shared", text)
			}
			s, err := snap.Load(q, l, saved)
			if err != nil {
				t.Fatal(err)
			}
			for range 2 {
				told += holdFresh(t, seen, snap.Peek(p.s), p.m.Peek())
				told += holdFresh(t, seen, snap.Peek(s), p.m.Peek())
			}
			p.hold(t)
			holdFresh(t, seen, s.Close(), p.m.Peek())
			p.hold(t)
			runtime.KeepAlive(saved)
		}
		p.close(t)
		if told < 20 {
			t.Errorf("%s: %d Outs", text, told)
		}
	}
}

// holdFresh holds Outs, and where their texts lie; then it writes over all of them, as far as their memory goes, one by one.
func holdFresh(t *testing.T, seen map[*byte]bool, got, want []api.Out) int {
	t.Helper()
	for i, o := range got {
		if i >= len(want) || !sameOuts(o, want[i]) || len(got) != len(want) {
			t.Errorf("%v, want %v", got, want)
			return 0
		}
		if !noteTexts(seen, o.Row) {
			t.Errorf("a text of %v is shared", o.Row)
		}
		whole := o.Row[:cap(o.Row)]
		for j := range whole {
			whole[j] = api.Val{Type: api.Text, S: "written over"}
		}
	}
	n := len(got)
	clear(got[:cap(got)])
	return n
}

// noteTexts notes where texts lie; false: one of them lies where one did.
func noteTexts(seen map[*byte]bool, row []api.Val) bool {
	apart := true
	for _, v := range row {
		if v.S == "" {
			continue
		}
		at := unsafe.StringData(v.S)
		apart = apart && !seen[at]
		seen[at] = true
	}
	return apart
}

func noteExpr(seen map[*byte]bool, e api.Expr) {
	noteTexts(seen, []api.Val{e.Val})
	for _, a := range e.Args {
		noteExpr(seen, a)
	}
}

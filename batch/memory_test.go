package batch_test

import (
	"fmt"
	"slices"
	"testing"
	"unsafe"

	"sluicebook/api"
	"sluicebook/batch"
)

// The queries of which each tells texts that come from columns, from values in the query, and from aggregates.
var telling = []string{
	"select k as p, 'own' as q, if(at > 1, k, 'own') as r from s where k <> 'no'",
	"select least(k) as p, most('own') as q, most(if(at > 1, k, 'own')) as r from s where k <> 'no' group by k, t window 4 slide 2",
	"select sum(at * 9223372036854775807) as p from s group by k, t window 4 slide 2",
}

const tellingRows = "1,'a','x' -1,'b','y' 2,'b','y' 2,'no','x' 1,'c','z' 3,'a','x' 5,'a','y' 9,'c','z'"

func tellingCols(t *testing.T) []api.Col { return heads(t, "at int,k text,t text") }

// TestNothingWritten is of P2 and P4: no list that is handed in is written into, nor what lies behind it; nor is that read.
func TestNothingWritten(t *testing.T) {
	for _, text := range telling {
		for _, fault := range []bool{false, true} {
			l, rows := tellingCols(t), table(t, tellingRows)
			if fault {
				rows[len(rows)-1][0] = words("x")
			}
			q := asked(t, text)
			want := fmt.Sprint(q, l, rows)
			outs, err := batch.Run(q, l, rows)
			roomyQuery, roomyCols, roomyRows := asked(t, text), roomy(l, api.Col{Name: "at", Type: 9}), roomy(rows, []api.Val{{Type: 9}})
			roomyQuery.Cols, roomyQuery.Names = roomy(q.Cols, api.Expr{Op: "nor"}), roomy(q.Names, "p")
			roomyQuery.Group, roomyQuery.Aggs = roomy(q.Group, "k"), roomy(q.Aggs, api.Agg{What: "all"})
			for i, r := range rows {
				roomyRows[i] = roomy(r, api.Val{Type: 9})
			}
			behind := func() string {
				s := fmt.Sprint(roomyCols[:cap(roomyCols)], roomyRows[:cap(roomyRows)], roomyQuery.Cols[:cap(roomyQuery.Cols)], roomyQuery.Names[:cap(roomyQuery.Names)],
					roomyQuery.Group[:cap(roomyQuery.Group)], roomyQuery.Aggs[:cap(roomyQuery.Aggs)])
				for _, r := range roomyRows {
					s += fmt.Sprint(r[:cap(r)])
				}
				return s
			}
			ahead := behind()
			again, errAgain := batch.Run(roomyQuery, roomyCols, roomyRows)
			if got := fmt.Sprint(q, l, rows); got != want {
				t.Errorf("%s: %s is now %s", text, want, got)
			}
			if got := behind(); got != ahead {
				t.Errorf("%s: %s is now %s", text, ahead, got)
			}
			if !slices.EqualFunc(outs, again, sameOuts) || err != errAgain || (err != nil) != fault {
				t.Errorf("%s: %v, %v and %v, %v", text, outs, err, again, errAgain)
			}
		}
	}
}

// roomy is a list with others behind its end.
func roomy[T any](l []T, behind T) []T {
	return append(slices.Clone(l), behind, behind, behind)[:len(l)]
}

// TestFresh is of P2: what comes out shares no memory with what is handed in, and no two lists or texts of it share any.
func TestFresh(t *testing.T) {
	for _, text := range telling {
		q, l, rows := asked(t, text), tellingCols(t), table(t, tellingRows)
		seen := map[*byte]bool{}
		for _, r := range rows {
			noteTexts(seen, r)
		}
		for _, e := range q.Cols {
			noteExpr(seen, e)
		}
		for _, a := range q.Aggs {
			noteExpr(seen, a.Of)
		}
		var all [][]api.Out
		var want string
		for range 3 {
			outs, err := batch.Run(q, l, rows)
			if err != nil || len(outs) < 5 {
				t.Fatalf("%s: %v, %v", text, outs, err)
			}
			if want == "" {
				want = fmt.Sprint(outs)
			}
			if got := fmt.Sprint(outs); got != want {
				t.Errorf("%s: %s, and then %s", text, want, got)
			}
			for _, o := range outs {
				if !noteTexts(seen, o.Row) {
					t.Errorf("%s: a text of %v is shared", text, o.Row)
				}
			}
			all = append(all, outs)
		}
		holdApart(t, all)
		if again, err := batch.Run(q, l, rows); err != nil || fmt.Sprint(again) != want {
			t.Errorf("%s: %v, %v", text, again, err)
		}
	}
}

// noteTexts notes where texts lie; false: one of them lies where one did.
func noteTexts(seen map[*byte]bool, row []api.Val) bool {
	apart := true
	for _, v := range row {
		if v.S == "" {
			continue
		}
		at := unsafe.StringData(v.S)
		apart = apart && !seen[at]
		seen[at] = true
	}
	return apart
}

func noteExpr(seen map[*byte]bool, e api.Expr) {
	noteTexts(seen, []api.Val{e.Val})
	for _, a := range e.Args {
		noteExpr(seen, a)
	}
}

// holdApart writes over each list, as far as its memory goes, and holds that no other has changed.
func holdApart(t *testing.T, all [][]api.Out) {
	t.Helper()
	mark := 0
	for _, outs := range all {
		for _, o := range outs {
			mark++
			for i := range o.Row[:cap(o.Row)] {
				o.Row[:cap(o.Row)][i] = number(mark)
			}
		}
	}
	mark = 0
	for _, outs := range all {
		for _, o := range outs {
			mark++
			if slices.ContainsFunc(o.Row, func(v api.Val) bool { return v != number(mark) }) {
				t.Errorf("%v shares memory", o.Row)
			}
		}
	}
	for i, outs := range all {
		clear(outs[:cap(outs)])
		for _, later := range all[i+1:] {
			if len(later) == 0 || later[0].Row == nil && later[0].Err == api.OK {
				t.Error("two lists of Outs share memory")
			}
		}
	}
}

// TestNothingKept is of P2: what was handed in may be changed behind the call, and what comes stays.
func TestNothingKept(t *testing.T) {
	for _, text := range telling {
		q, l, rows := asked(t, text), tellingCols(t), table(t, tellingRows)
		var over []func()
		for _, r := range rows {
			for i, v := range r {
				s, done := loose(v.S)
				r[i].S = s
				over = append(over, done)
			}
		}
		outs, err := batch.Run(q, l, rows)
		want := fmt.Sprint(outs, err)
		for _, done := range over {
			done()
		}
		for _, r := range rows {
			clear(r)
		}
		clear(rows)
		clear(l)
		clear(q.Cols)
		clear(q.Names)
		clear(q.Group)
		clear(q.Aggs)
		if got := fmt.Sprint(outs, err); got != want {
			t.Errorf("%s: %s is now %s", text, want, got)
		}
		holdRows(t, asked(t, text), tellingCols(t), table(t, tellingRows), shown(t, outs))
	}
}

// loose is a text whose memory is written over by the function that comes with it, as a caller's might be.
func loose(s string) (string, func()) {
	b := []byte(s)
	return unsafe.String(unsafe.SliceData(b), len(b)), func() {
		for i := range b {
			b[i] = '#'
		}
	}
}

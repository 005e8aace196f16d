package snap_test

import (
	"math"
	"math/rand"
	"slices"
	"strings"
	"testing"

	"sluicebook/api"
	"sluicebook/plain"
	"sluicebook/snap"
	"sluicebook/stream"
)

// TestPeek is of P1: what Close would tell now: all windows with rows that were not told, by window, then by the group's values, also those that go over.
func TestPeek(t *testing.T) {
	play(t, counted+"4 slide 2", "at int,k int",
		step{"peek", "", 0, 0}, step{"3,2", "", 2, 1}, step{"peek", "0:2,1 2:2,1", 2, 1}, step{"peek", "0:2,1 2:2,1", 2, 1}, step{"3,1", "", 2, 2}, step{"peek", "0:1,1 0:2,1 2:1,1 2:2,1", 2, 2},
		step{"2,5", "0:ErrState", 2, 3}, step{"peek", "0:1,1 0:2,1 2:1,1 2:2,1", 2, 3}, step{"4,1", "0:1,1 0:2,1", 2, 4}, step{"peek", "2:1,2 2:2,1 4:1,1", 2, 4},
		step{"close", "2:1,2 2:2,1 4:1,1", 0, 0}, step{"peek", "", 0, 0})
	play(t, "select sum(k) as n from s group by b window 5", "at int,k int,b bool",
		step{"6,9223372036854775807,true", "", 1, 1}, step{"6,1,true", "", 1, 2}, step{"6,1,false", "", 1, 3}, step{"peek", "5:false,1 5:ErrOver", 1, 3},
		step{"6,-1,true", "", 1, 4}, step{"peek", "5:false,1 5:true,9223372036854775807", 1, 4}, step{"close", "5:false,1 5:true,9223372036854775807", 0, 0})
	play(t, "select k as p from s", "k int", step{"peek", "", 0, 0}, step{"3", "0:3", 0, 1}, step{"peek", "", 0, 1}, step{"close", "", 0, 0})
}

// TestPeekStays is of P1: at each place a Stream that is Peeked at goes on as one that is not; its text stays too.
func TestPeekStays(t *testing.T) {
	rows := table(t, "3,'a' 2,'a' 4,'b' -1,'a' 6,'a' 6,'no' 6,'c' 13,'a' 12,'b' 13,'c'")
	for _, text := range []string{
		"select k as p from s where k <> 'no'",
		"select count as n from s where k <> 'no' group by k window 5",
		"select sum(9 / (at - 4)) as n, most(k) as m from s group by k window 4 slide 1",
	} {
		q, l := asked(t, text), heads(t, "at int,k text")
		for place := range len(rows) + 1 {
			s, o := made(t, q, l), made(t, q, l)
			for i, r := range rows {
				if i == place {
					ahead := snap.Save(s)
					for range 3 {
						snap.Peek(s)
					}
					if got := snap.Save(s); got != ahead {
						t.Errorf("%s: at %d: %q, want %q", text, place, got, ahead)
					}
				}
				a, err := s.Push(r)
				b, how := o.Push(r)
				if !slices.EqualFunc(a, b, sameOuts) || plain.Told(err) != plain.Told(how) || s.Open() != o.Open() || s.Rows() != o.Rows() {
					t.Errorf("%s: Peeked at %d: %v: %v, want %v", text, place, r, a, b)
				}
			}
			if a, b, c := snap.Peek(s), s.Close(), o.Close(); !slices.EqualFunc(a, b, sameOuts) || !slices.EqualFunc(b, c, sameOuts) {
				t.Errorf("%s: Peeked at %d: Peek %v, Close %v, want %v", text, place, a, b, c)
			}
		}
	}
}

// TestNotMade is of P1 of DOC.md: what no New made has no text, and tells nothing.
func TestNotMade(t *testing.T) {
	for _, s := range []*stream.Stream{nil, {}, new(stream.Stream)} {
		if text, outs := snap.Save(s), snap.Peek(s); text != "" || len(outs) > 0 {
			t.Errorf("%q, %v", text, outs)
		}
	}
}

// TestAnyInput is of P1 of DOC.md: no call panics, whatever it is handed; with an error there is no Stream, and it is what chapter 15's New tells, or ErrSyntax.
func TestAnyInput(t *testing.T) {
	c := chooser{Rand: rand.New(rand.NewSource(165))}
	texts := []string{"", "stream 0 0\n", "stream 3 2\n", "x"}
	for _, s := range spoilings(t) {
		texts = append(texts, s.text)
	}
	met := map[api.Errno]int{}
	for range 20_000 {
		c.cols()
		q, l := c.broken(c.asked(t)), slices.Clone(c.l)
		if c.Intn(4) == 0 {
			q = c.broken(q)
		}
		if c.Intn(6) == 0 {
			i := c.Intn(len(l))
			l[i] = api.Col{Name: oneOf(c, "", "at", "A", strings.Repeat("z", 9)), Type: oneOf(c, 0, 1, 2, 3, 4, math.MinInt)}
		}
		_, how := stream.New(q, l)
		s, err := snap.Load(q, l, oneOf(c, texts...))
		met[plain.Told(err)]++
		if (s == nil) != (err != nil) || how != nil && plain.Told(err) != plain.Told(how) || how == nil && err != nil && plain.Told(err) != api.ErrSyntax {
			t.Errorf("%s\n%v, %v; New tells %v", show(q, l), s, err, how)
		}
		if s != nil {
			goOn(t, q, l, s, c.rows(3, 2))
		}
	}
	for _, how := range []api.Errno{api.OK, api.ErrRange, api.ErrSyntax, api.ErrShape, api.ErrFull, api.ErrNone, api.ErrClash, api.ErrType} {
		if met[how] < 20 {
			t.Errorf("%v came %d times", how, met[how])
		}
	}
}

// TestGreatest is of P1 and P5 of DOC.md: as many columns, groups and windows as may be, for long, and a text that is as long as it comes.
func TestGreatest(t *testing.T) {
	l := heads(t, "at int,a int,b text,c text,d text,e int")
	q := asked(t, "select sum(a) as p, most(e) as q from s group by a, b, c, d window 1000 slide 100")
	p := newPair(t, q, l)
	long := words(strings.Repeat("'", 40))
	told := 0
	for i := range 450 {
		told += len(p.push(t, []api.Val{number(i * 20), number(math.MinInt + i%45), long, long, long, number(-i)}))
		if i%150 == 149 {
			p = p.twin(t)
		}
	}
	if told < 1_000 {
		t.Errorf("%d Outs", told)
	}
	// Far too many windows, groups and numbers, of which none is taken.
	for _, s := range spoilings(t) {
		text := "stream 9 7\n" + strings.Repeat("window 6\n", 50_000) + strings.Repeat("group 1 1\n", 50_000) + strings.Repeat("count\n", 50_000)
		holdError(t, s.q, s.l, text, api.ErrSyntax)
		holdError(t, s.q, s.l, "stream 9 7\nwindow 6\ngroup 1 1\nsum 1"+strings.Repeat(",1", 50_000)+"\n", api.ErrSyntax)
		holdError(t, s.q, s.l, "stream 9 7\nwindow 6\ngroup 1 1"+strings.Repeat(",1", 50_000)+"\n", api.ErrSyntax)
	}
}

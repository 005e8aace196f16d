package stream_test

import (
	"fmt"
	"math"
	"testing"

	"sluicebook/agg"
	"sluicebook/api"
	"sluicebook/batch"
	"sluicebook/plain"
	"sluicebook/stream"
)

// known is what that Stream knows, of which there is to be no error.
func known(t *testing.T, s *stream.Stream) stream.Known {
	t.Helper()
	k, err := s.Known()
	if err != nil {
		t.Fatal(err)
	}
	return k
}

// TestLearn is of snap's P1: at each place what Learned what another one knew goes on as that would, and Peek tells what Close does.
func TestLearn(t *testing.T) {
	rows := table(t, "3,'a' 2,'a' 4,'b' -1,'a' 6,'a' 6,'no' 6,'c' 13,'a' 12,'b' 13,'c'")
	for _, text := range []string{
		"select k as p from s where k <> 'no'",
		"select count as n from s where k <> 'no' group by k window 5",
		"select sum(9 / (at - 4)) as n, most(k) as m from s group by k window 4 slide 1",
	} {
		q, l := asked(t, text), heads(t, "at int,k text")
		for place := range len(rows) + 1 {
			p, o := newPair(t, q, l), newPair(t, q, l)
			for _, r := range rows[:place] {
				p.push(t, r)
			}
			o.push(t, rows[len(rows)-1])
			if err := o.s.Learn(known(t, p.s)); err != nil {
				t.Fatalf("%s: at %d: %v", text, place, err)
			}
			*o.m = *p.m
			o.hold(t)
			got := fmt.Sprint(o.s.Peek())
			if want := fmt.Sprint(p.close(t)); got != want {
				t.Errorf("%s: at %d: Peek %s, want %s", text, place, got, want)
			}
			o.all(t, rows[place:])
		}
	}
}

// TestLearnShape is of snap's P1: what cannot be left of so many rows is refused, and nothing is changed.
func TestLearnShape(t *testing.T) {
	s := made(t, asked(t, counted+"5"), heads(t, "at int,k int"))
	if got := done(t, s, "7,1"); got != (step{"7,1", "", 1, 1}) {
		t.Error(got)
	}
	want := fmt.Sprint(known(t, s))
	of := func(n int) batch.Known {
		rows := agg.Known{Rows: n, Parts: make([]agg.Found, 1)}
		return batch.Known{Last: 7, Windows: []batch.Window{{From: 5, Groups: []batch.Group{{Key: []api.Val{number(1)}, Known: agg.Known{Rows: 1, Parts: make([]agg.Found, 1)}}, {Key: []api.Val{number(2)}, Known: rows}}}}}
	}
	for _, k := range []stream.Known{
		{Rows: -1}, {Rows: math.MinInt}, {Rows: 0, Left: batch.Known{Last: 7}}, {Rows: 0, Left: of(0)}, {Rows: 0, Left: of(1)}, {Rows: 1, Left: of(2)},
		{Rows: 1, Left: of(0)}, {Rows: 1, Left: of(-1)}, {Rows: math.MaxInt - 1, Left: of(math.MaxInt)}, {Rows: 1, Left: batch.Known{Last: -1}},
	} {
		if how := plain.Told(s.Learn(k)); how != api.ErrShape || fmt.Sprint(known(t, s)) != want {
			t.Errorf("%v: %v, and it knows %v", k, how, known(t, s))
		}
	}
	for _, k := range []stream.Known{{}, {Rows: 1}, {Rows: 1, Left: batch.Known{Last: 7}}, {Rows: 1, Left: of(1)}, {Rows: 2, Left: of(2)}} {
		if err := s.Learn(k); err != nil || fmt.Sprint(known(t, s)) != fmt.Sprint(k) {
			t.Errorf("%v: %v, and it knows %v", k, err, known(t, s))
		}
	}
}

// TestRowsGreatest is of snap's P1: one that Learned of as many rows as a number can tell stays at that.
func TestRowsGreatest(t *testing.T) {
	s := made(t, asked(t, "select k as p from s"), heads(t, "k int"))
	if err := s.Learn(stream.Known{Rows: math.MaxInt - 1}); err != nil {
		t.Fatal(err)
	}
	for range 3 {
		if got := done(t, s, "7"); got != (step{"7", "0:7", 0, math.MaxInt}) {
			t.Error(got)
		}
	}
	if got := done(t, s, "close"); got != (step{"close", "", 0, 0}) {
		t.Error(got)
	}
}

// TestNotMade is of P1: what no New made knows nothing, and tells nothing.
func TestNotMade(t *testing.T) {
	for _, s := range []*stream.Stream{nil, {}} {
		if k, err := s.Known(); plain.Told(err) != api.ErrNone || fmt.Sprint(k) != fmt.Sprint(stream.Known{}) || len(s.Peek()) > 0 {
			t.Errorf("%v, %v", k, err)
		}
	}
}

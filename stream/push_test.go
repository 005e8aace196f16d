package stream_test

import (
	"fmt"
	"math"
	"slices"
	"strings"
	"testing"

	"sluicebook/api"
	"sluicebook/plain"
)

// counted asks how many rows there are of each k.
const counted = "select count as n from s group by k window "

// TestPushCols is of S1: of a query without a group each row is told by itself, now, and no window is open.
func TestPushCols(t *testing.T) {
	play(t, "select k as p from s", "k int",
		step{"3", "0:3", 0, 1}, step{"1", "0:1", 0, 2}, step{"3", "0:3", 0, 3}, step{"close", "", 0, 0})
	play(t, "select 20 / k as p, k as q from s where k < 9", "k int",
		step{"5", "0:4,5", 0, 1}, step{"0", "0:ErrOver", 0, 2}, step{"9", "", 0, 3}, step{"-1", "0:-20,-1", 0, 4}, step{"close", "", 0, 0})
	play(t, "select k as p from s where 1 / k > 0", "k int",
		step{"0", "0:ErrOver", 0, 1}, step{"1", "0:1", 0, 2}, step{"2", "", 0, 3})
	play(t, "select len(k) as p, b as q from s where b or k = 'x'", "k text,b bool",
		step{"'it''s',true", "0:4,true", 0, 1}, step{"'it''s',false", "", 0, 2}, step{"'x',false", "0:1,false", 0, 3})
	// What is named `at` is no time without a group.
	play(t, "select at as p from s", "at int",
		step{"7", "0:7", 0, 1}, step{"-1", "0:-1", 0, 2}, step{"1000001", "0:1000001", 0, 3}, step{"6", "0:6", 0, 4}, step{"close", "", 0, 0})
	play(t, "select at as p from s", "at text", step{"'a'", "0:'a'", 0, 1})
}

// TestPushTime is of S1: ErrRange and ErrState are told now, and tell no window; such a row is Added nowhere, and none is held against it.
func TestPushTime(t *testing.T) {
	play(t, counted+"5", "at int,k int",
		step{"-1,1", "0:ErrRange", 0, 1}, step{"0,1", "", 1, 2}, step{"1000001,1", "0:ErrRange", 1, 3}, step{"9223372036854775807,1", "0:ErrRange", 1, 4},
		step{"-9223372036854775808,1", "0:ErrRange", 1, 5}, step{"1000000,1", "0:1,1", 1, 6}, step{"999999,1", "0:ErrState", 1, 7},
		step{"1000000,1", "", 1, 8}, step{"close", "1000000:1,2", 0, 0})
	play(t, counted+"5", "at int,k int",
		step{"7,1", "", 1, 1}, step{"6,1", "0:ErrState", 1, 2}, step{"3,1", "0:ErrState", 1, 3}, step{"-1,1", "0:ErrRange", 1, 4}, step{"5,1", "0:ErrState", 1, 5},
		step{"7,1", "", 1, 6}, step{"9,1", "", 1, 7}, step{"8,1", "0:ErrState", 1, 8}, step{"10,1", "5:1,3", 1, 9})
	// A row is held against each ahead that had neither, whatever else came of it.
	play(t, "select sum(10 / k) as n from s where k > -1 group by k window 5", "at int,k int",
		step{"2,1", "", 1, 1}, step{"3,-5", "", 1, 2}, step{"2,1", "0:ErrState", 1, 3}, step{"4,0", "0:ErrOver", 1, 4}, step{"3,1", "0:ErrState", 1, 5}, step{"4,1", "", 1, 6})
}

// TestPushTells is of S1: windows that end at or below `at` are told now, by window, then by the group's values, ahead of what comes of the row.
func TestPushTells(t *testing.T) {
	play(t, counted+"5", "at int,k int",
		step{"0,2", "", 1, 1}, step{"4,1", "", 1, 2}, step{"5,1", "0:1,1 0:2,1", 1, 3}, step{"6,1", "", 1, 4}, step{"1000,1", "5:1,2", 1, 5}, step{"close", "1000:1,1", 0, 0})
	play(t, counted+"4 slide 2", "at int,k int",
		step{"3,2", "", 2, 1}, step{"3,1", "", 2, 2}, step{"4,1", "0:1,1 0:2,1", 2, 3}, step{"5,9", "", 2, 4}, step{"6,1", "2:1,2 2:2,1 2:9,1", 2, 5},
		step{"9,1", "4:1,2 4:9,1", 2, 6}, step{"10,1", "6:1,2", 2, 7}, step{"20,1", "8:1,2 10:1,1", 2, 8}, step{"close", "18:1,1 20:1,1", 0, 0})
	// Also by a row that is not let through, and ahead of one's ErrOver.
	play(t, "select count as n, sum(10 / k) as m from s where k <> 7 group by k window 5", "at int,k int",
		step{"1,5", "", 1, 1}, step{"5,7", "0:5,1,2", 0, 2}, step{"6,2", "", 1, 3}, step{"10,0", "5:2,1,5 0:ErrOver", 0, 4}, step{"11,0", "0:ErrOver", 0, 5},
		step{"11,1", "", 1, 6}, step{"close", "10:1,1,10", 0, 0})
	// A sum that goes over is told so, with where its window begins.
	play(t, "select sum(k) as n from s group by b window 5", "at int,k int,b bool",
		step{"6,9223372036854775807,true", "", 1, 1}, step{"6,1,true", "", 1, 2}, step{"6,1,false", "", 1, 3}, step{"10,1,true", "5:false,1 5:ErrOver", 1, 4}, step{"close", "10:true,1", 0, 0})
}

// TestPushFull is of S1: a row for which there is no room is Added in none of its windows.
func TestPushFull(t *testing.T) {
	p := newPair(t, asked(t, counted+"4 slide 2"), heads(t, "at int,k int"))
	for k := range 40 {
		if got := p.push(t, one(t, fmt.Sprint("1,", k))); len(got) > 0 || p.s.Open() != 1 {
			t.Errorf("%v, %d open", got, p.s.Open())
		}
	}
	for _, c := range []struct {
		row, first string
		outs, open int
	}{
		{"1,40", "0:ErrFull", 1, 1},
		{"3,40", "0:ErrFull", 1, 1}, // beside the full one there is another, which is not opened for it
		{"3,-1", "0:ErrFull", 1, 1},
		{"3,39", "", 0, 2},
		{"4,40", "0:0,1", 40, 2}, // when the full one is told there is room
	} {
		got := p.push(t, one(t, c.row))
		if len(got) != c.outs || p.s.Open() != c.open || len(got) > 0 && shown(t, got[:1]) != c.first {
			t.Errorf("%s: %s, %d open, want %s, %d", c.row, shown(t, got), p.s.Open(), c.first, c.open)
		}
	}
	if got := shown(t, p.close(t)); got != "2:39,1 2:40,1 4:40,1" {
		t.Error(got)
	}
}

// wrongs are rows that chapter 2's Check refuses, over columns `at int,k text`.
func wrongs() map[string]struct {
	row []api.Val
	how api.Errno
} {
	type one = struct {
		row []api.Val
		how api.Errno
	}
	a := words("a")
	return map[string]one{
		"nil":    {nil, api.ErrShape},
		"none":   {[]api.Val{}, api.ErrShape},
		"short":  {[]api.Val{number(900)}, api.ErrShape},
		"long":   {[]api.Val{number(900), a, a}, api.ErrShape},
		"many":   {make([]api.Val, 100_000), api.ErrShape},
		"type":   {[]api.Val{{Type: 0, N: 900}, a}, api.ErrRange},
		"far":    {[]api.Val{{Type: math.MinInt, N: 900}, a}, api.ErrRange},
		"bool":   {[]api.Val{number(900), {Type: api.Bool, N: 2}}, api.ErrRange},
		"full":   {[]api.Val{number(900), words(strings.Repeat("a", 41))}, api.ErrFull},
		"byte":   {[]api.Val{number(900), words("\x7f")}, api.ErrSyntax},
		"shape":  {[]api.Val{{Type: api.Int, N: 900, S: "a"}, a}, api.ErrShape},
		"number": {[]api.Val{number(900), number(1)}, api.ErrType},
		"turned": {[]api.Val{a, number(900)}, api.ErrType},
		"first":  {[]api.Val{a, words("\x7f")}, api.ErrType},
	}
}

// TestPushWrong is of S1 and P1: with chapter 2's Check there are no Outs, and nothing is changed: Open, Rows, and what comes later are as if it had not been Pushed.
func TestPushWrong(t *testing.T) {
	good := table(t, "3,'a' 2,'a' 4,'b' -1,'a' 6,'a' 6,'no' 6,'c' 13,'a' 12,'b'")
	for _, text := range []string{
		"select k as p from s where k <> 'no'",
		"select 9 / (at - 4) as p from s where at > 2",
		"select count as n from s where k <> 'no' group by k window 5",
		"select sum(9 / (at - 4)) as n, most(k) as m from s group by k window 4 slide 1",
	} {
		q, l := asked(t, text), heads(t, "at int,k text")
		for name, w := range wrongs() {
			for place := range len(good) + 1 {
				p := newPair(t, q, l)
				for _, r := range good[:place] {
					p.push(t, r)
				}
				open, rows := p.s.Open(), p.s.Rows()
				for range 3 {
					if outs, err := p.s.Push(w.row); len(outs) > 0 || plain.Told(err) != w.how {
						t.Errorf("%s: %s: %v, %v", text, name, outs, err)
					}
					if p.s.Open() != open || p.s.Rows() != rows {
						t.Errorf("%s: %s: %d open and %d rows, and they were %d and %d", text, name, p.s.Open(), p.s.Rows(), open, rows)
					}
				}
				// The model was not told of it.
				p.all(t, good[place:])
			}
		}
	}
}

// TestPushMany is of S1: it may be Pushed however often, far beyond MaxRows.
func TestPushMany(t *testing.T) {
	for _, text := range []string{
		"select k as p from s where k > 3",
		"select count as n, sum(at) as m from s group by k window 10",
		"select count as n, sum(at) as m, least(at) as o from s where k <> 2 group by k window 20 slide 2",
		"select count as n from s group by k window 1000 slide 100",
		"select most(at) as n from s group by k window 1",
	} {
		p := newPair(t, asked(t, text), heads(t, "at int,k int"))
		told := 0
		for i := range 1_500 {
			told += len(p.push(t, []api.Val{number(i * 2), number(i % 7)}))
			if p.s.Rows() != i+1 || p.s.Open() > 10 {
				t.Fatalf("%s: %d rows, %d open", text, p.s.Rows(), p.s.Open())
			}
		}
		if told += len(p.close(t)); told < 100 {
			t.Errorf("%s: %d Outs", text, told)
		}
	}
}

// TestPushManyAtOnce is of S1: more than MaxRows rows in one group of one window, of which the sum goes far over between, and comes back.
func TestPushManyAtOnce(t *testing.T) {
	const n = 2_000
	s := made(t, asked(t, "select count as n, sum(k) as m, least(k) as o from s group by b window 5"), heads(t, "at int,k int,b bool"))
	for round, want := range []string{"0:true,2000,-1000,-9223372036854775808", "0:ErrOver"} {
		for i := range n {
			k := number(math.MaxInt)
			if i >= n/2 && round == 0 {
				k = number(math.MinInt)
			}
			outs, err := s.Push([]api.Val{number(1), k, {Type: api.Bool, N: 1}})
			if len(outs) > 0 || err != nil || s.Open() != 1 || s.Rows() != i+1 {
				t.Fatalf("%d: %v, %v, %d open, %d rows", i, outs, err, s.Open(), s.Rows())
			}
		}
		if got := shown(t, s.Close()); got != want {
			t.Errorf("%s, want %s", got, want)
		}
	}
}

// TestOpen is of S1: how many windows hold rows that were not told: all that hold the row, and none of those that were told.
func TestOpen(t *testing.T) {
	play(t, counted+"10 slide 1", "at int,k int",
		step{"0,1", "", 1, 1}, step{"3,1", "", 4, 2}, step{"9,1", "", 10, 3}, step{"9,2", "", 10, 4}, step{"8,1", "0:ErrState", 10, 5},
		step{"10,1", "0:1,3 0:2,1", 10, 6}, step{"18,0", "1:1,3 1:2,1 2:1,3 2:2,1 3:1,3 3:2,1 4:1,2 4:2,1 5:1,2 5:2,1 6:1,2 6:2,1 7:1,2 7:2,1 8:1,2 8:2,1", 10, 7})
	// A window that begins at once and holds no row is not open.
	play(t, "select count as n from s where k > 0 group by k window 4 slide 2", "at int,k int",
		step{"0,0", "", 0, 1}, step{"3,1", "", 2, 2}, step{"5,0", "0:1,1", 1, 3}, step{"5,1", "", 2, 4}, step{"6,0", "2:1,2", 1, 5}, step{"8,0", "4:1,1", 0, 6}, step{"9,2", "", 2, 7}, step{"close", "6:2,1 8:2,1", 0, 0})
	play(t, counted+"5 slide 2", "at int,k int", step{"4,1", "", 3, 1}, step{"5,1", "0:1,1", 2, 2}, step{"1000000,1", "2:1,2 4:1,2", 3, 3})
	play(t, counted+"1000 slide 100", "at int,k int", step{"1000000,1", "", 10, 1}, step{"1000001,1", "0:ErrRange", 10, 2})
	play(t, counted+"1", "at int,k int", step{"8,1", "", 1, 1}, step{"8,2", "", 1, 2}, step{"9,1", "8:1,1 8:2,1", 1, 3})
	// Neither ErrOver nor ErrShape opens one.
	play(t, "select sum(1 / k) as n from s group by k window 5", "at int,k int", step{"1,0", "0:ErrOver", 0, 1}, step{"nil", "ErrShape", 0, 1}, step{"1", "ErrShape", 0, 1}, step{"2,1", "", 1, 2})
}

// TestRows is of S1: how many rows were Pushed without an error: those too whose Outs tell of one, or that are not let through.
func TestRows(t *testing.T) {
	play(t, "select sum(1 / k) as n from s where k < 9 group by k window 5", "at int,k int",
		step{"nil", "ErrShape", 0, 0}, step{"-1,1", "0:ErrRange", 0, 1}, step{"6,1", "", 1, 2}, step{"5,1", "0:ErrState", 1, 3}, step{"true,1", "ErrType", 1, 3},
		step{"6,0", "0:ErrOver", 1, 4}, step{"6,9", "", 1, 5}, step{"1", "ErrShape", 1, 5}, step{"1,1,1", "ErrShape", 1, 5}, step{"10,9", "5:1,1", 0, 6}, step{"close", "", 0, 0},
		step{"nil", "ErrShape", 0, 0}, step{"0,1", "", 1, 1})
	play(t, "select 1 / k as p from s where k < 9", "k int",
		step{"1", "0:1", 0, 1}, step{"'a'", "ErrType", 0, 1}, step{"0", "0:ErrOver", 0, 2}, step{"9", "", 0, 3}, step{"nil", "ErrShape", 0, 3}, step{"close", "", 0, 0}, step{"1", "0:1", 0, 1})
}

// TestHalves is of S1: a group without aggregates, and aggregates without a group's columns, which chapter 12's Check lets through.
func TestHalves(t *testing.T) {
	l := heads(t, "at int,k int")
	q := asked(t, counted+"4 slide 2")
	q.Aggs = nil
	if got := shown(t, newPair(t, q, l).all(t, table(t, "1,5 3,4 3,5"))); got != "0:4 0:5 2:4 2:5" {
		t.Error(got)
	}
	q = asked(t, "select count as n, most(k) as m from s group by k window 4 slide 2")
	q.Group = nil
	if got := shown(t, newPair(t, q, l).all(t, table(t, "1,5 3,4 3,5 8,1"))); got != "0:3,5 2:2,5 6:1,1 8:1,1" {
		t.Error(got)
	}
}

// TestTimePlaces is of S1: `at` may stand at each place.
func TestTimePlaces(t *testing.T) {
	for i := range 6 {
		names := slices.Insert([]string{"a", "b", "c", "d", "e"}, i, "at")
		var l []api.Col
		for _, name := range names {
			l = append(l, api.Col{Name: name, Type: api.Int})
		}
		s := made(t, asked(t, "select most(c) as n from s group by e window 5"), l)
		for at, want := range []string{"", "", "", "", "", "0:7,7", "", "", "", "", "5:7,7"} {
			r := slices.Insert([]api.Val{number(7), number(7), number(7), number(7), number(7)}, i, number(at))
			if got, err := s.Push(r); shown(t, got) != want || err != nil {
				t.Errorf("%d: %v, %v", at, got, err)
			}
		}
	}
}

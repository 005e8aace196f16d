package stream_test

import (
	"slices"
	"testing"

	"sluicebook/api"
)

// TestClose is of S1: all windows with rows that were not told, by window, then by the group's values; none where there are none.
func TestClose(t *testing.T) {
	play(t, counted+"5", "at int,k int", step{"close", "", 0, 0}, step{"close", "", 0, 0})
	play(t, counted+"4 slide 2", "at int,k int",
		step{"3,2", "", 2, 1}, step{"3,1", "", 2, 2}, step{"5,1", "0:1,1 0:2,1", 2, 3}, step{"close", "2:1,2 2:2,1 4:1,1", 0, 0})
	play(t, counted+"5", "at int,k int", step{"-1,1", "0:ErrRange", 0, 1}, step{"1000001,1", "0:ErrRange", 0, 2}, step{"close", "", 0, 0})
	play(t, "select count as n from s where false group by k window 5", "at int,k int", step{"1,1", "", 0, 1}, step{"7,1", "", 0, 2}, step{"close", "", 0, 0})
	play(t, "select sum(k) as n from s group by b window 5", "at int,k int,b bool",
		step{"6,9223372036854775807,true", "", 1, 1}, step{"6,1,true", "", 1, 2}, step{"6,1,false", "", 1, 3}, step{"close", "5:false,1 5:ErrOver", 0, 0})
	play(t, "select k as p from s", "k int", step{"close", "", 0, 0}, step{"1", "0:1", 0, 1}, step{"close", "", 0, 0}, step{"close", "", 0, 0})
}

// TestCloseTwice is of S1: a second Close tells nothing, and no later row tells what Close did.
func TestCloseTwice(t *testing.T) {
	play(t, counted+"5", "at int,k int",
		step{"1,1", "", 1, 1}, step{"close", "0:1,1", 0, 0}, step{"close", "", 0, 0}, step{"close", "", 0, 0}, step{"100,1", "", 1, 1}, step{"close", "100:1,1", 0, 0}, step{"close", "", 0, 0})
}

// TestCloseAsNew is of S1: then it is as New: also rows whose `at` is less than one ahead of Close are no more ErrState, and a window that was told is told again.
func TestCloseAsNew(t *testing.T) {
	play(t, counted+"5", "at int,k int",
		step{"1000000,1", "", 1, 1}, step{"0,1", "0:ErrState", 1, 2}, step{"close", "1000000:1,1", 0, 0}, step{"0,1", "", 1, 1}, step{"4,2", "", 1, 2},
		step{"3,1", "0:ErrState", 1, 3}, step{"5,1", "0:1,1 0:2,1", 1, 4}, step{"close", "5:1,1", 0, 0}, step{"4,2", "", 1, 1}, step{"close", "0:2,1", 0, 0})
	play(t, counted+"4 slide 2", "at int,k int",
		step{"6,1", "", 2, 1}, step{"close", "4:1,1 6:1,1", 0, 0}, step{"6,1", "", 2, 1}, step{"5,1", "0:ErrState", 2, 2}, step{"close", "4:1,1 6:1,1", 0, 0}, step{"5,1", "", 2, 1})
	// Where no window was open the time is forgotten too.
	play(t, "select count as n from s where k > 0 group by k window 5", "at int,k int",
		step{"9,0", "", 0, 1}, step{"8,1", "0:ErrState", 0, 2}, step{"close", "", 0, 0}, step{"8,1", "", 1, 1}, step{"close", "5:1,1", 0, 0})
	// And so is a sum that went over.
	play(t, "select sum(k) as n from s group by b window 5", "at int,k int,b bool",
		step{"6,9223372036854775807,true", "", 1, 1}, step{"6,1,true", "", 1, 2}, step{"close", "5:ErrOver", 0, 0}, step{"6,1,true", "", 1, 1}, step{"close", "5:true,1", 0, 0})
}

// TestCloseFull is of S1: behind Close there is room for as many groups as at first.
func TestCloseFull(t *testing.T) {
	p := newPair(t, asked(t, counted+"5"), heads(t, "at int,k int"))
	for round := range 3 {
		for k := range 42 {
			got := shown(t, p.push(t, []api.Val{number(9 - round), number(k + 100*round)}))
			if want := ""; k < 40 && got != want || k >= 40 && got != "0:ErrFull" {
				t.Errorf("round %d, %d: %s", round, k, got)
			}
		}
		if got := p.close(t); len(got) != 40 {
			t.Errorf("round %d: %v", round, got)
		}
	}
}

// TestCloseAnywhere is of S1: behind Close at each place the same rows tell the same, whatever came ahead of it.
func TestCloseAnywhere(t *testing.T) {
	rows := table(t, "3,'a' 2,'a' 4,'b' -1,'a' 6,'a' 6,'no' 6,'c' 13,'a' 12,'b' 13,'c'")
	for _, text := range []string{
		"select k as p from s where k <> 'no'",
		"select count as n from s where k <> 'no' group by k window 5",
		"select sum(9 / (at - 4)) as n, most(k) as m from s group by k window 4 slide 1",
	} {
		q, l := asked(t, text), heads(t, "at int,k text")
		want := newPair(t, q, l).all(t, rows)
		for place := range len(rows) + 1 {
			p := newPair(t, q, l)
			for _, r := range rows[:place] {
				p.push(t, r)
			}
			p.close(t)
			for range 2 {
				if got := p.all(t, rows); !slices.EqualFunc(got, want, sameOuts) {
					t.Errorf("%s: closed at %d: %v, want %v", text, place, got, want)
				}
			}
		}
	}
}

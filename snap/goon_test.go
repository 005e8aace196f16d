package snap_test

import (
	"fmt"
	"math"
	"math/rand"
	"slices"
	"strings"
	"testing"

	"sluicebook/api"
	"sluicebook/snap"
)

// counted asks how many rows there are of each k.
const counted = "select count as n from s group by k window "

// TestGoneOn is of P1: Saved and Loaded ahead of any step, or of all, each Push, Close and Peek tells the same, and so do Open and Rows.
func TestGoneOn(t *testing.T) {
	play(t, "select 20 / k as p, k as q from s where k < 9", "k int",
		step{"peek", "", 0, 0}, step{"5", "0:4,5", 0, 1}, step{"0", "0:ErrOver", 0, 2}, step{"9", "", 0, 3}, step{"nil", "ErrShape", 0, 3}, step{"true", "ErrType", 0, 3},
		step{"peek", "", 0, 3}, step{"-1", "0:-20,-1", 0, 4}, step{"close", "", 0, 0}, step{"close", "", 0, 0}, step{"9", "", 0, 1})
	// Windows that overlap; late, out of range, and wrong ones between.
	play(t, counted+"4 slide 2", "at int,k int",
		step{"close", "", 0, 0}, step{"3,2", "", 2, 1}, step{"peek", "0:2,1 2:2,1", 2, 1}, step{"2,2", "0:ErrState", 2, 2}, step{"3,1", "", 2, 3}, step{"-1,1", "0:ErrRange", 2, 4},
		step{"1000001,1", "0:ErrRange", 2, 5}, step{"3", "ErrShape", 2, 5}, step{"5,1", "0:1,1 0:2,1", 2, 6}, step{"4,7", "0:ErrState", 2, 7}, step{"peek", "2:1,2 2:2,1 4:1,1", 2, 7},
		step{"close", "2:1,2 2:2,1 4:1,1", 0, 0}, step{"peek", "", 0, 0}, step{"0,1", "", 1, 1}, step{"1000000,1", "0:1,1", 2, 2}, step{"999999,1", "0:ErrState", 2, 3},
		step{"close", "999998:1,1 1000000:1,1", 0, 0})
	// Not let through, or with an error, so that no window is open, though there was a time.
	play(t, "select count as n, sum(10 / k) as m from s where k <> 7 group by k window 5", "at int,k int",
		step{"2,7", "", 0, 1}, step{"1,5", "0:ErrState", 0, 2}, step{"2,0", "0:ErrOver", 0, 3}, step{"2,5", "", 1, 4}, step{"5,7", "0:5,1,2", 0, 5}, step{"4,5", "0:ErrState", 0, 6},
		step{"11,0", "0:ErrOver", 0, 7}, step{"close", "", 0, 0}, step{"4,5", "", 1, 1}, step{"peek", "0:5,1,2", 1, 1})
}

// TestGoneOnTypes is of P1: groups of Ints, Bools and Texts, and least and most of each type.
func TestGoneOnTypes(t *testing.T) {
	play(t, "select count as n, least(k) as l, most(k) as m from s group by b, k window 5", "at int,k text,b bool",
		step{"1,'a,b',true", "", 1, 1}, step{"1,'',true", "", 1, 2}, step{"1,'it''s',false", "", 1, 3}, step{"1,'''',true", "", 1, 4}, step{"1,''',''',true", "", 1, 5},
		step{"1,' ',false", "", 1, 6}, step{"2,'a,b',true", "", 1, 7}, step{"2,'count 1',true", "", 1, 8},
		step{"peek", "0:false,' ',1,' ',' ' 0:false,'it''s',1,'it''s','it''s' 0:true,'',1,'','' 0:true,'''',1,'''','''' 0:true,''',''',1,''',''',''',''' 0:true,'a,b',2,'a,b','a,b' 0:true,'count 1',1,'count 1','count 1'", 1, 8})
	play(t, "select least(n) as l, most(n) as m, least(b) as c, most(b) as d from s group by at window 5", "n int,at int,b bool",
		step{"-9223372036854775808,1,true", "", 1, 1}, step{"0,1,true", "", 1, 2}, step{"peek", "0:1,-9223372036854775808,0,true,true", 1, 2},
		step{"9223372036854775807,1,false", "", 1, 3}, step{"peek", "0:1,-9223372036854775808,9223372036854775807,false,true", 1, 3}, step{"-1,3,false", "", 1, 4},
		step{"-1,5,true", "0:1,-9223372036854775808,9223372036854775807,false,true 0:3,-1,-1,false,false", 1, 5})
	play(t, "select least(k) as l, most(k) as m, least(k + 0) as o from s group by k window 5", "k int,at int",
		step{"-9223372036854775808,1", "", 1, 1}, step{"9223372036854775807,1", "", 1, 2}, step{"-1,1", "", 1, 3}, step{"10,1", "", 1, 4}, step{"9,1", "", 1, 5},
		step{"close", "0:-9223372036854775808,-9223372036854775808,-9223372036854775808,-9223372036854775808 0:-1,-1,-1,-1 0:9,9,9,9 0:10,10,10,10 0:9223372036854775807,9223372036854775807,9223372036854775807,9223372036854775807", 0, 0})
}

// TestGoneOnSums is of P1: sums that are over, and that went far over between and came back.
func TestGoneOnSums(t *testing.T) {
	play(t, "select sum(k) as n, count as c from s group by b window 5", "at int,k int,b bool",
		step{"1,9223372036854775807,true", "", 1, 1}, step{"1,1,true", "", 1, 2}, step{"peek", "0:ErrOver", 1, 2}, step{"1,-2,true", "", 1, 3}, step{"peek", "0:true,9223372036854775806,3", 1, 3},
		step{"1,9223372036854775807,true", "", 1, 4}, step{"1,9223372036854775807,true", "", 1, 5}, step{"1,-9223372036854775808,true", "", 1, 6}, step{"peek", "0:ErrOver", 1, 6},
		step{"1,-9223372036854775808,true", "", 1, 7}, step{"1,-9223372036854775808,true", "", 1, 8}, step{"peek", "0:true,-4,8", 1, 8},
		step{"1,-9223372036854775808,true", "", 1, 9}, step{"1,-9223372036854775808,true", "", 1, 10}, step{"5,1,false", "0:ErrOver", 1, 11})
	q, l := asked(t, "select sum(k) as n from s group by b window 5"), heads(t, "at int,k int,b bool")
	for _, far := range []int{math.MaxInt, math.MinInt} {
		p := newPair(t, q, l)
		row := func(n int) []api.Val { return []api.Val{number(1), number(n), {Type: api.Bool}} }
		for range 40 {
			p.push(t, row(far))
			p = p.twin(t)
		}
		for range 40 {
			p.push(t, row(-1-far))
			p = p.twin(t)
		}
		if got := shown(t, snap.Peek(p.s)); got != "0:false,-40" {
			t.Error(got)
		}
	}
}

// TestGoneOnFull is of P1: windows of as many groups as may be.
func TestGoneOnFull(t *testing.T) {
	p := newPair(t, asked(t, counted+"4 slide 2"), heads(t, "at int,k int"))
	for k := range 40 {
		p.push(t, one(t, fmt.Sprint("1,", k)))
	}
	for _, c := range []struct {
		row, first string
		outs, open int
	}{
		{"1,40", "0:ErrFull", 1, 1},
		{"3,40", "0:ErrFull", 1, 1},
		{"3,39", "", 0, 2},
		{"4,40", "0:0,1", 40, 2},
	} {
		p = p.twin(t)
		got := p.push(t, one(t, c.row))
		if len(got) != c.outs || p.s.Open() != c.open || len(got) > 0 && shown(t, got[:1]) != c.first {
			t.Errorf("%s: %s, %d open, want %s, %d", c.row, shown(t, got), p.s.Open(), c.first, c.open)
		}
	}
	// Ten windows at once, all of them full, with keys and values that are as long as may be.
	q := asked(t, "select least(k) as n, most(o) as m from s group by k, o window 1000 slide 100")
	l := heads(t, "at int,k text,o text")
	p = newPair(t, q, l)
	long := strings.Repeat("'", 39)
	for k := range 41 {
		outs := p.push(t, []api.Val{number(1_000_000 - 50), words(long + string(rune('0'+k))), words(long)})
		if len(outs) > 0 != (k == 40) || p.s.Open() != 10 {
			t.Errorf("%d: %v, %d open", k, outs, p.s.Open())
		}
	}
	p = p.twin(t)
	if got := p.close(t); len(got) != 400 {
		t.Errorf("%d Outs", len(got))
	}
}

// TestHalves is of P1: a group without aggregates, and aggregates without a group's columns.
func TestHalves(t *testing.T) {
	l := heads(t, "at int,k int")
	q := asked(t, counted+"4 slide 2")
	q.Aggs = nil
	o := asked(t, "select count as n, most(k) as m, sum(k) as l from s group by k window 4 slide 2")
	o.Group = nil
	for _, q := range []api.Query{q, o} {
		p := newPair(t, q, l)
		for _, r := range table(t, "1,5 3,4 3,5 8,1") {
			p = p.twin(t)
			p.push(t, r)
		}
		p.twin(t).close(t)
	}
}

// TestAllBytes is of P1: Texts of all bytes that may be, in groups and as values.
func TestAllBytes(t *testing.T) {
	q, l := asked(t, "select least(k) as n, most(k) as m from s group by k window 5"), heads(t, "at int,k text")
	for a := ' '; a <= '~'; a++ {
		p := newPair(t, q, l)
		for b := ' '; b <= '~'; b += 5 {
			p.push(t, []api.Val{number(1), words(string(a) + string(b))})
		}
		p.push(t, []api.Val{number(1), words(string(a))})
		p.twin(t).close(t)
	}
}

// TestEachPlace is of P1: at each place in a list of rows, and behind Close, the saved Stream goes on as if it had not been, and the loaded one as that, whichever goes first; neither touches the other.
func TestEachPlace(t *testing.T) {
	rows := table(t, "3,'a' 2,'a' 4,'b' -1,'a' 6,'a' 6,'no' 6,'c' 13,'a' 12,'b' 13,'c' 1000001,'a'")
	for _, text := range []string{
		"select k as p from s where k <> 'no'",
		"select 9 / (at - 4) as p from s where at > 2",
		"select count as n from s where k <> 'no' group by k window 5",
		"select sum(9 / (at - 4)) as n, most(k) as m from s group by k window 4 slide 1",
	} {
		q, l := asked(t, text), heads(t, "at int,k text")
		for place := range 2*len(rows) + 1 {
			p := newPair(t, q, l)
			for _, r := range rows[:min(place, len(rows))] {
				p.push(t, r)
			}
			if place >= len(rows) { // behind Close, and rows that came since
				p.close(t)
				for _, r := range rows[:place-len(rows)] {
					p.push(t, r)
				}
			}
			o, last := p.twin(t), p.twin(t)
			p.all(t, rows)
			for _, r := range rows {
				o.push(t, r)
				p.push(t, r)
			}
			o.close(t)
			last.all(t, rows)
			p.hold(t)
			p.close(t)
		}
	}
}

// TestAllShort is of P1: all short lists of rows, with a Save and Load at each place, of queries in which each of their marks may come.
func TestAllShort(t *testing.T) {
	var some [][]api.Val
	for _, at := range []int{-1, 0, 2, 3, 5} {
		for _, k := range []int{0, 1, math.MaxInt} {
			some = append(some, []api.Val{number(at), number(k)})
		}
	}
	some = some[2:] // of those below 0 one is enough
	l := heads(t, "at int,k int")
	for _, text := range []string{
		"select 1 / k as p from s where at <> 2",
		"select sum(k) as n, count as c from s group by k window 2",
		"select sum(k) as n from s where at / k < 2 group by at window 3 slide 2",
		"select sum(at * k) as n from s where at <> 3 group by k window 3 slide 1",
		"select most(k) as m, least(- k) as o from s where k > 0 group by at, k window 4 slide 2",
	} {
		q := asked(t, text)
		for n := range 4 {
			each(some, n, func(rows [][]api.Val) {
				p := newPair(t, q, l)
				for _, r := range rows {
					p.push(t, r)
					p = p.twin(t)
				}
				p.close(t)
			})
		}
	}
}

// TestByChance is of P1: queries and rows by chance, right and wrong, and Closes, on Streams that are Saved and Loaded now and then; those that were Saved go on too.
func TestByChance(t *testing.T) {
	c := chooser{Rand: rand.New(rand.NewSource(16))}
	met := map[api.Errno]int{}
	for range 600 {
		c.cols()
		p := newPair(t, c.asked(t), c.l)
		rarely := oneOf(c, 1, 3, 10)
		for _, r := range c.rows(c.Intn(60), oneOf(c, 0, 1, 1, 2, 6)) {
			if c.Intn(40) == 0 {
				p.close(t)
			}
			if c.Intn(8) == 0 {
				p.push(t, c.spoiled(r))
			}
			if c.Intn(rarely) == 0 {
				o := p.twin(t)
				if c.Intn(2) == 0 {
					o, p = p, o
				}
				o.push(t, r)
				o.push(t, c.rows(1, 6)[0])
				if c.Intn(2) == 0 {
					o.close(t)
				}
			}
			for _, o := range p.push(t, r) {
				met[o.Err]++
			}
		}
		p.close(t)
	}
	for _, how := range []api.Errno{api.OK, api.ErrRange, api.ErrState, api.ErrOver} {
		if met[how] < 100 {
			t.Errorf("%v came %d times", how, met[how])
		}
	}
}

// TestLong is of P1: far more rows than MaxRows.
func TestLong(t *testing.T) {
	p := newPair(t, asked(t, "select count as n, sum(at) as m, least(at) as o from s where k <> 2 group by k window 20 slide 2"), heads(t, "at int,k int"))
	told := 0
	for i := range 1_500 {
		if i%7 == 0 {
			p = p.twin(t)
		}
		told += len(p.push(t, []api.Val{number(i * 2), number(i % 7)}))
	}
	if told < 1_000 || p.s.Rows() != 1_500 {
		t.Errorf("%d Outs, %d rows", told, p.s.Rows())
	}
}

// TestSameText is of P1 and P2: what a Stream knows has the same text, however it came to know it: of groups in any order, and behind Close as of none.
func TestSameText(t *testing.T) {
	q, l := asked(t, "select count as n, sum(v) as o, least(v) as p from s group by k window 4 slide 2"), heads(t, "at int,k text,v int")
	rows := table(t, "3,'a',1 3,'b',5 3,'',9 3,'it''s',-1 3,'a',7 3,'b',0")
	of := func(rows [][]api.Val) string {
		p := newPair(t, q, l)
		for _, r := range rows {
			p.push(t, r)
		}
		return snap.Save(p.s)
	}
	want := of(rows)
	c := chooser{Rand: rand.New(rand.NewSource(162))}
	for range 50 {
		turned := slices.Clone(rows)
		c.Shuffle(len(turned), func(i, j int) { turned[i], turned[j] = turned[j], turned[i] })
		if got := of(turned); got != want {
			t.Errorf("%v: %q, want %q", turned, got, want)
		}
	}
	p := newPair(t, q, l)
	none := snap.Save(p.s)
	p.all(t, rows)
	if got := snap.Save(p.s); got != none || none == want {
		t.Errorf("behind Close: %q, want %q", got, none)
	}
}

package book_test

import (
	"fmt"
	"testing"

	"sluicebook/api"
	"sluicebook/book"
	"sluicebook/plain"
)

// deeds are commands but for Session and Seq.
func deeds(t *testing.T) []api.Cmd {
	t.Helper()
	var l []api.Cmd
	for _, text := range []string{
		"create s at int",
		"create q at int",
		"append s 5",
		"append q 12",
		"register q select at as n from s",
		"register q select count as n from s group by at window 5",
		"remove q",
	} {
		l = append(l, cmd(t, "0 0 "+text))
	}
	return l
}

// TestAllShort is of K1 to K3: all lists of six commands, each of a Seq more.
func TestAllShort(t *testing.T) {
	all := deeds(t)
	for list := range 7 * 7 * 7 * 7 * 7 * 7 {
		p := &pair{b: book.New(), m: &model{}}
		for seq, rest := 1, list; seq <= 6; seq, rest = seq+1, rest/7 {
			c := all[rest%7]
			c.Seq = seq
			p.do(t, c)
		}
		if t.Failed() {
			t.Fatalf("list %d", list)
		}
		if list%5 == 0 {
			p.hold(t)
		}
	}
}

// TestAllSeqs is of K1: all lists of four commands of two sessions, each of one of three Seqs.
func TestAllSeqs(t *testing.T) {
	all := deeds(t)[:3]
	const some = 3 * 2 * 3
	for list := range some * some * some * some {
		p := &pair{b: book.New(), m: &model{}}
		for n, rest := 0, list; n < 4; n, rest = n+1, rest/some {
			c := all[rest%3]
			c.Session, c.Seq = rest/3%2, 1+rest/6%3
			p.do(t, c)
		}
		if list%7 == 0 {
			p.hold(t)
		}
		if t.Failed() {
			t.Fatalf("list %d", list)
		}
	}
}

// TestByChance is of K1 to K3, P1 and P2 of DOC.md: many streams, queries, sessions and rows; each query has told what a Stream of it tells of the rows behind its registering.
func TestByChance(t *testing.T) {
	counts := map[string]int{}
	for seed := range int64(300) {
		p := newPair(t)
		c := newChooser(seed, p.m)
		wrong := c.Intn(40)
		for range 20 + c.Intn(200) {
			cmd := c.cmd(wrong)
			said := p.do(t, cmd)
			if c.Intn(20) == 0 {
				p.hold(t)
			}
			if said[0] != 'E' {
				said = "done"
			}
			counts[fmt.Sprint(cmd.What, said)]++
			if t.Failed() {
				t.Fatalf("seed %d: %s", seed, show(cmd))
			}
		}
		p.hold(t)
		streams, queries := p.b.Names()
		counts[fmt.Sprint("streams ", len(streams))]++
		counts[fmt.Sprint("queries ", len(queries))]++
		for _, name := range queries {
			outs, _ := p.b.Outs(name, 0)
			counts["outs"] += len(outs)
		}
	}
	for _, want := range []string{
		"1done", "1ErrSyntax", "1ErrClash", "1ErrState", "1ErrRange", "2done", "2ErrNone", "2ErrShape", "2ErrType", "2ErrState",
		"3done", "3ErrSyntax", "3ErrNone", "3ErrClash", "3ErrFull", "4done", "4ErrNone", "streams 8", "queries 8",
	} {
		if counts[want] == 0 {
			t.Errorf("none is %s: %v", want, counts)
		}
	}
	if counts["outs"] < 8_000 {
		t.Errorf("%v", counts)
	}
}

// TestWild is of P1 and P2 of DOC.md: whatever is handed in, no call panics, beside an error there is nothing, and a second Book answers the same.
func TestWild(t *testing.T) {
	for seed := range int64(2_000) {
		a, b := book.New(), book.New()
		c := newChooser(seed, &model{})
		for range 30 {
			cmd := api.Cmd{What: c.wild(), Session: c.wild(), Seq: c.wild(), Name: c.wildText(), Text: c.wildText()}
			for range c.Intn(3) {
				c.spoilRow(&cmd)
			}
			n, err := a.Do(cmd)
			m, bad := b.Do(cmd)
			if n != m || err != bad || err != nil && (n != 0 || plain.Told(err) <= 0 || plain.Told(err) > api.ErrFuel) {
				t.Fatalf("%s: %d, %v, and %d, %v", show(cmd), n, err, m, bad)
			}
			holdEmpty(t, a, cmd.Name, c.wild())
		}
	}
}

// holdEmpty holds that beside an error there is nothing.
func holdEmpty(t *testing.T, b *book.Book, name string, from int) {
	t.Helper()
	outs, err := b.Outs(name, from)
	if err != nil && outs != nil {
		t.Errorf("%.20q: %v beside %v", name, outs, err)
	}
	rows, err := b.Rows(name)
	if err != nil && rows != 0 {
		t.Errorf("%.20q: %d beside %v", name, rows, err)
	}
}

// TestLong is of K1 to K3: many streams that are full, with as many queries as may be, at very long sequences of commands.
func TestLong(t *testing.T) {
	p := newPair(t)
	c := newChooser(1, p.m)
	for i, name := range names(8) {
		p.say(t, [2]string{"create " + name + " at int,a int,b text", "0"})
		p.say(t, [2]string{"register " + name + " " + c.query(name, p.m.streams()[name]), "0"})
		if i == 0 {
			continue
		}
		p.say(t, [2]string{"remove " + name, "0"})
		p.say(t, [2]string{"register " + name + " " + c.query("na", p.m.streams()["na"]), "0"})
	}
	l := p.m.streams()["na"]
	for i := range 8 * 310 {
		name := names(8)[i%8]
		want := fmt.Sprint(1 + i/8)
		if i/8 >= 300 {
			want = "ErrFull"
		}
		if got := p.do(t, api.Cmd{What: api.Append, Session: 1 + i, Seq: 1, Name: name, Row: c.row(name, l)}); got != want {
			t.Fatalf("%d: %s, want %s", i, got, want)
		}
	}
	p.hold(t)
}

package book_test

import (
	"fmt"
	"math"
	"strings"
	"testing"

	"sluicebook/api"
	"sluicebook/book"
	"sluicebook/plain"
)

// begun is a Book with a stream s, of which a query q tells all, and a row.
func begun(t *testing.T) *pair {
	t.Helper()
	p := newPair(t)
	p.play(t,
		[2]string{"0 1 create s at int,k text", "0"},
		[2]string{"0 2 register q select at as n, k as m from s", "0"},
		[2]string{"0 3 append s 5,'a'", "1"},
	)
	return p
}

// TestNew is of K1: there is nothing as yet, and Index is 0.
func TestNew(t *testing.T) {
	b := book.New()
	if b == nil || b == book.New() {
		t.Fatal("it is not a new one")
	}
	streams, queries := b.Names()
	if len(streams) != 0 || len(queries) != 0 || b.Index() != 0 {
		t.Errorf("%q, %q, %d", streams, queries, b.Index())
	}
	newPair(t)
}

// TestWrong is of K1: each thing by which a command is none, and which error is told first; such a one does not count.
func TestWrong(t *testing.T) {
	right := cmd(t, "1 1 append s 6,'b'")
	for _, w := range []struct {
		change func(c *api.Cmd)
		want   string
	}{
		{func(c *api.Cmd) { c.What = 0 }, "ErrRange"},
		{func(c *api.Cmd) { c.What = 5 }, "ErrRange"},
		{func(c *api.Cmd) { c.What = -1 }, "ErrRange"},
		{func(c *api.Cmd) { c.What = math.MinInt }, "ErrRange"},
		{func(c *api.Cmd) { c.What = math.MaxInt }, "ErrRange"},
		{func(c *api.Cmd) { c.Session = -1 }, "ErrRange"},
		{func(c *api.Cmd) { c.Session = 1_000_001 }, "ErrRange"},
		{func(c *api.Cmd) { c.Session = math.MinInt }, "ErrRange"},
		{func(c *api.Cmd) { c.Session = math.MaxInt }, "ErrRange"},
		{func(c *api.Cmd) { c.Seq = 0 }, "ErrRange"},
		{func(c *api.Cmd) { c.Seq = -1 }, "ErrRange"},
		{func(c *api.Cmd) { c.Seq = 1_000_001 }, "ErrRange"},
		{func(c *api.Cmd) { c.Seq = math.MinInt }, "ErrRange"},
		{func(c *api.Cmd) { c.Seq = math.MaxInt }, "ErrRange"},
		{func(c *api.Cmd) { c.Name = "" }, "ErrSyntax"},
		{func(c *api.Cmd) { c.Name = "abcdefghi" }, "ErrSyntax"},
		{func(c *api.Cmd) { c.Name = "S" }, "ErrSyntax"},
		{func(c *api.Cmd) { c.Name = "s " }, "ErrSyntax"},
		{func(c *api.Cmd) { c.Name = "s\n" }, "ErrSyntax"},
		{func(c *api.Cmd) { c.Name = "sé" }, "ErrSyntax"},
		{func(c *api.Cmd) { c.Name = strings.Repeat("s", 100_000) }, "ErrSyntax"},
		// Two at once.
		{func(c *api.Cmd) { c.What, c.Name = 0, "" }, "ErrRange"},
		{func(c *api.Cmd) { c.Session, c.Name = -1, "" }, "ErrRange"},
		{func(c *api.Cmd) { c.Seq, c.Name = 0, "" }, "ErrRange"},
		{func(c *api.Cmd) { c.Name, c.Row = "", nil }, "ErrSyntax"},
		{func(c *api.Cmd) { c.What, c.Name, c.Text = api.Create, "", "" }, "ErrSyntax"},
		{func(c *api.Cmd) { c.What, c.Name, c.Text = api.Register, "Q", "" }, "ErrSyntax"},
		{func(c *api.Cmd) { c.What, c.Name = api.Remove, "q0" }, "ErrSyntax"},
	} {
		p := begun(t)
		c := right
		w.change(&c)
		p.stays(t, c, w.want)
		if p.b.Index() != 3 {
			t.Errorf("%s counts", show(c))
		}
		// Session 1 may begin with that Seq, so its last one is as it was.
		p.play(t, [2]string{"1 1 append s 6,'b'", "2"})
		p.told(t, "q", "0:5,'a' 0:6,'b'")
	}
}

// TestWrongNames is of K1: every byte at each place of a Name, for each What.
func TestWrongNames(t *testing.T) {
	b := book.New()
	seq := 0
	for what := api.Create; what <= api.Remove; what++ {
		for _, name := range []string{"a", "abc", "abcdefgh"} {
			for i := range name {
				for sign := range 256 {
					changed := []byte(name)
					changed[i] = byte(sign)
					seq++
					ahead := b.Index()
					_, err := b.Do(api.Cmd{What: what, Session: 7, Seq: seq, Name: string(changed)})
					isLetter := sign >= 'a' && sign <= 'z'
					if counts := b.Index() > ahead; counts != isLetter {
						t.Fatalf("%d %q: %v, counts: %v", what, changed, err, counts)
					}
					if !isLetter && plain.Told(err) != api.ErrSyntax {
						t.Fatalf("%d %q: %v", what, changed, err)
					}
				}
			}
		}
	}
}

// TestWrongBeforeSeq is of K1: of what is no command this is told, also where its Seq is that of the last one, or less; and the last one stays.
func TestWrongBeforeSeq(t *testing.T) {
	for _, seq := range []int{1, 2, 3} {
		p := begun(t)
		for _, c := range []api.Cmd{{What: 0, Seq: seq, Name: "s"}, {What: 5, Seq: seq, Name: "s"}} {
			p.stays(t, c, "ErrRange")
		}
		p.stays(t, api.Cmd{What: api.Remove, Seq: seq, Name: "Q"}, "ErrSyntax")
		p.stays(t, cmd(t, "0 3 remove q"), "1")
		if p.b.Index() != 3 {
			t.Errorf("Index is %d", p.b.Index())
		}
	}
}

// TestEdgeNumbers is of K1: the least and the greatest Session and Seq.
func TestEdgeNumbers(t *testing.T) {
	p := newPair(t)
	p.play(t,
		[2]string{"1000000 1 create s at int", "0"},
		[2]string{"1000000 1000000 append s 5", "1"},
		[2]string{"1000000 1000000 append s 5", "1"},
		[2]string{"1000000 999999 append s 5", "ErrState"},
		[2]string{"1000000 1 append s 5", "ErrState"},
		[2]string{"0 1000000 append s 5", "2"},
		[2]string{"0 1 append s 5", "ErrState"},
		[2]string{"999999 1 append s 5", "3"},
	)
	if p.b.Index() != 4 {
		t.Errorf("Index is %d", p.b.Index())
	}
	p.stays(t, api.Cmd{What: api.Append, Session: 1_000_000, Seq: 1_000_001, Name: "s", Row: one(t, "5")}, "ErrRange")
}

// TestSameSeq is of K1: one with the Seq of the last one is answered as that was, whatever else it says, and nothing is done.
func TestSameSeq(t *testing.T) {
	for _, last := range [][2]string{
		{"append s 6,'b'", "2"},
		{"append t 6,'b'", "ErrNone"},
		{"append s 6", "ErrShape"},
		{"append s 'b','b'", "ErrType"},
		{"create t at int", "0"},
		{"create s at int", "ErrClash"},
		{"create t at", "ErrSyntax"},
		{"create t at int,at int", "ErrClash"},
		{"register p select at as n from s", "0"},
		{"register p select at as n from s where k", "ErrType"},
		{"register p select at", "ErrSyntax"},
		{"register q select at as n from s", "ErrClash"},
		{"remove q", "0"},
		{"remove p", "ErrNone"},
	} {
		p := begun(t)
		p.play(t, [2]string{"0 7 " + last[0], last[1]})
		for _, again := range []string{
			last[0], "append s 6,'b'", "append s 6,'c'", "append s ", "append no 1", "create t at int", "create u b bool", "create s ",
			"register p select at as n from s", "register o select at as n from t", "register p ", "remove q", "remove p",
		} {
			p.stays(t, cmd(t, "0 7 "+again), last[1])
			if p.b.Index() != 4 {
				t.Errorf("%s, %s: Index is %d", last[0], again, p.b.Index())
			}
		}
	}
}

// TestSameSeqLater is of K1: it is answered as it was, also where other sessions have changed what would come of it.
func TestSameSeqLater(t *testing.T) {
	p := newPair(t)
	p.play(t,
		[2]string{"1 1 append s 5", "ErrNone"},
		[2]string{"2 1 remove q", "ErrNone"},
		[2]string{"3 1 register q select at as n from s", "ErrNone"},
		[2]string{"0 1 create s at int", "0"},
		[2]string{"4 9 create s at int", "ErrClash"},
		[2]string{"1 1 append s 5", "ErrNone"},
		[2]string{"3 1 register q select at as n from s", "ErrNone"},
		[2]string{"0 2 register q select at as n from s", "0"},
		[2]string{"2 1 remove q", "ErrNone"},
		[2]string{"1 2 append s 5", "1"},
		[2]string{"2 2 append s 6", "2"},
		[2]string{"1 2 append s 5", "1"},
		[2]string{"2 2 append s 6", "2"},
		[2]string{"0 2 register q select at as n from s", "0"},
		[2]string{"0 3 remove q", "0"},
		[2]string{"0 3 remove q", "0"},
	)
	if p.b.Index() != 9 {
		t.Errorf("Index is %d", p.b.Index())
	}
}

// TestLessSeq is of K1: one with a lesser Seq is ErrState, whatever else it says, nothing is done, and the last one stays the last.
func TestLessSeq(t *testing.T) {
	p := begun(t)
	p.play(t, [2]string{"0 9 append s 6,'b'", "2"})
	for _, seq := range []int{1, 2, 3, 4, 5, 8} {
		for _, what := range []string{"append s 6,'b'", "append s ", "append no 1", "create t at int", "create s ", "register p select at as n from s", "register p ", "remove q", "remove p"} {
			p.stays(t, cmd(t, fmt.Sprint("0 ", seq, " ", what)), "ErrState")
			p.stays(t, cmd(t, "0 9 "+what), "2")
		}
	}
	if p.b.Index() != 4 {
		t.Errorf("Index is %d", p.b.Index())
	}
}

// TestGreaterSeq is of K1: one with a greater Seq is done, however far it is, and counts, also if an error comes of it.
func TestGreaterSeq(t *testing.T) {
	p := newPair(t)
	p.play(t, [2]string{"0 1 create s at int", "0"})
	rows := 0
	for i, seq := range []int{2, 3, 5, 6, 100, 101, 102, 99_999, 500_000, 500_001, 999_999, 1_000_000} {
		if i%3 == 2 {
			p.play(t, [2]string{fmt.Sprint("0 ", seq, " append t 5"), "ErrNone"})
		} else {
			rows++
			p.play(t, [2]string{fmt.Sprint("0 ", seq, " append s 5"), fmt.Sprint(rows)})
		}
		if p.b.Index() != i+2 {
			t.Errorf("behind %d Index is %d", seq, p.b.Index())
		}
	}
}

// TestSessionsApart is of K1: a session's last Seq is its own.
func TestSessionsApart(t *testing.T) {
	p := newPair(t)
	p.play(t,
		[2]string{"5 9 create s at int", "0"},
		[2]string{"6 9 append s 1", "1"},
		[2]string{"7 1 append s 2", "2"},
		[2]string{"0 3 append s 3", "3"},
		[2]string{"6 8 append s 4", "ErrState"},
		[2]string{"7 2 append s 5", "4"},
		[2]string{"5 9 append s 6", "0"},
		[2]string{"0 3 append s 7", "3"},
		[2]string{"6 9 append s 8", "1"},
		[2]string{"6 10 append s 9", "5"},
		[2]string{"5 8 append s 10", "ErrState"},
		[2]string{"0 4 append s 11", "6"},
		[2]string{"7 2 append s 12", "4"},
	)
	if p.b.Index() != 7 {
		t.Errorf("Index is %d", p.b.Index())
	}
}

// TestManySessions is of K1: each of very many sessions is as it would be alone.
func TestManySessions(t *testing.T) {
	b := book.New()
	if _, err := b.Do(cmd(t, "1000000 1 create s at int")); err != nil {
		t.Fatal(err)
	}
	for round := 1; round <= 2; round++ {
		for session := range 20_000 {
			for range 2 {
				n, err := b.Do(api.Cmd{What: api.Remove, Session: session * 50, Seq: 1 + session + round, Name: "q"})
				if n != 0 || plain.Told(err) != api.ErrNone {
					t.Fatalf("%d: %d, %v", session, n, err)
				}
			}
			n, err := b.Do(api.Cmd{What: api.Remove, Session: session * 50, Seq: session + round, Name: "q"})
			if n != 0 || plain.Told(err) != api.ErrState {
				t.Fatalf("%d: %d, %v", session, n, err)
			}
		}
	}
	if b.Index() != 40_001 {
		t.Errorf("Index is %d", b.Index())
	}
}

// TestOtherFields is of K2: what a command does not need may be anything.
func TestOtherFields(t *testing.T) {
	p := newPair(t)
	wild := []api.Val{{Type: 9, N: math.MinInt, S: "\xff"}}
	for i, c := range []api.Cmd{
		{What: api.Create, Name: "s", Text: "at int", Row: wild},
		{What: api.Register, Name: "q", Text: "select at as n from s", Row: wild},
		{What: api.Append, Name: "s", Text: "\xff", Row: one(t, "5")},
		{What: api.Remove, Name: "q", Text: "\xff", Row: wild},
	} {
		c.Seq = i + 1
		if got := p.do(t, c); strings.HasPrefix(got, "Err") {
			t.Errorf("%s: %s", show(c), got)
		}
		p.hold(t)
	}
}

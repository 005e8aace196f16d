package book_test

import (
	"math"
	"slices"
	"strings"
	"testing"

	"sluicebook/api"
	"sluicebook/plain"
)

// TestOuts is of K3: what a query has told so far, from each place on; just behind the last one there is none, and no error.
func TestOuts(t *testing.T) {
	p := newPair(t)
	p.say(t,
		[2]string{"create s at int", "0"},
		[2]string{"register q select at as n from s where at > 5", "0"},
		[2]string{"append s 5", "1"},
		[2]string{"append s 6", "2"},
		[2]string{"append s 7", "3"},
		[2]string{"append s 8", "4"},
	)
	for from, want := range []string{"0:6 0:7 0:8", "0:7 0:8", "0:8", ""} {
		outs, err := p.b.Outs("q", from)
		if got := shown(t, outs); got != want || err != nil {
			t.Errorf("from %d: %s, %v, want %s", from, got, err, want)
		}
	}
}

// TestOutsErrors is of K3: ErrNone of each Name that is no query's, wherever from; else ErrRange of what is below 0 or beyond how many there are.
func TestOutsErrors(t *testing.T) {
	p := begun(t)
	p.say(t, [2]string{"register o select at as n from s", "0"})
	for _, from := range []int{0, 1, 2, -1, math.MinInt, math.MaxInt} {
		for _, name := range []string{"s", "p", "", "Q", "q ", "\xff", strings.Repeat("q", 100_000)} {
			if outs, err := p.b.Outs(name, from); len(outs) != 0 || plain.Told(err) != api.ErrNone {
				t.Errorf("%.20q from %d: %v, %v", name, from, outs, err)
			}
		}
		outs, err := p.b.Outs("q", from)
		if inside := from == 0 || from == 1; len(outs) != 0 && !inside || (err == nil) != inside || !inside && plain.Told(err) != api.ErrRange {
			t.Errorf("q from %d: %v, %v", from, outs, err)
		}
		outs, err = p.b.Outs("o", from)
		if len(outs) != 0 || (err == nil) != (from == 0) || from != 0 && plain.Told(err) != api.ErrRange {
			t.Errorf("o from %d: %v, %v", from, outs, err)
		}
	}
	p.say(t, [2]string{"remove q", "0"})
	if outs, err := p.b.Outs("q", 0); len(outs) != 0 || plain.Told(err) != api.ErrNone {
		t.Errorf("%v, %v", outs, err)
	}
}

// TestOutsOfErrors is of K3: what is told of a row that goes over, is late, has no time, or has no room, stands there too.
func TestOutsOfErrors(t *testing.T) {
	p := newPair(t)
	p.say(t,
		[2]string{"create s at int,k int", "0"},
		[2]string{"register q select 20 / k as n from s where at <> 3", "0"},
		[2]string{"register p select count as n, sum(at * k) as m from s where 1 / at >= 0 group by k window 10", "0"},
		[2]string{"append s 5,4", "1"},
		[2]string{"append s 4,0", "2"},
		[2]string{"append s -1,0", "3"},
		[2]string{"append s 1000001,20", "4"},
		[2]string{"append s 3,0", "5"},
		[2]string{"append s 9,9223372036854775807", "6"},
		[2]string{"append s 10,2", "7"},
	)
	p.told(t, "q", "0:5 0:ErrOver 0:ErrOver 0:1 0:0 0:10")
	p.told(t, "p", "0:ErrState 0:ErrRange 0:ErrRange 0:ErrState 0:ErrOver 0:4,1,20")
	p.say(t, [2]string{"create u at int,k int", "0"}, [2]string{"register o select count as n from u group by k window 1000", "0"})
	for k := range 41 {
		p.do(t, api.Cmd{What: api.Append, Seq: p.next(), Name: "u", Row: []api.Val{number(0), number(k)}})
	}
	p.told(t, "o", "0:ErrFull")
	p.hold(t)
}

// TestOutsOfWindows is of K3: a window that is done is told, once; what is not done is not told.
func TestOutsOfWindows(t *testing.T) {
	p := newPair(t)
	p.say(t,
		[2]string{"create s at int,k text", "0"},
		[2]string{"register q select count as n from s group by k window 10 slide 5", "0"},
		[2]string{"append s 3,'b'", "1"},
		[2]string{"append s 9,'a'", "2"},
	)
	p.told(t, "q", "")
	p.say(t, [2]string{"append s 10,'a'", "3"})
	p.told(t, "q", "0:'a',1 0:'b',1")
	p.say(t, [2]string{"append s 14,'a'", "4"})
	p.told(t, "q", "0:'a',1 0:'b',1")
	p.say(t, [2]string{"append s 15,'c'", "5"})
	p.told(t, "q", "0:'a',1 0:'b',1 5:'a',3")
	p.say(t, [2]string{"append s 1000000,'c'", "6"})
	p.told(t, "q", "0:'a',1 0:'b',1 5:'a',3 10:'a',2 10:'c',1 15:'c',1")
	p.say(t, [2]string{"append s 1000000,'c'", "7"})
	p.told(t, "q", "0:'a',1 0:'b',1 5:'a',3 10:'a',2 10:'c',1 15:'c',1")
}

// TestRows is of K3: how many a stream has, each by itself; ErrNone.
func TestRows(t *testing.T) {
	p := begun(t)
	p.say(t, [2]string{"create t at int", "0"}, [2]string{"append s 6", "ErrShape"}, [2]string{"append s 6,'b'", "2"})
	for _, w := range []struct{ name, want string }{
		{"s", "2"}, {"t", "0"}, {"q", "ErrNone"}, {"", "ErrNone"}, {"S", "ErrNone"}, {"\xff", "ErrNone"}, {strings.Repeat("s", 100_000), "ErrNone"},
	} {
		for range 2 {
			n, err := p.b.Rows(w.name)
			if got := answer(t, n, err); got != w.want {
				t.Errorf("%.20q: %s, want %s", w.name, got, w.want)
			}
		}
	}
}

// TestNames is of K3: of streams and of queries, each rising, in whatever order they came; what was removed is gone.
func TestNames(t *testing.T) {
	orders := [][]string{
		{"a", "b", "c", "aa", "ab", "z", "abcdefgh", "s"},
		{"z", "s", "c", "b", "abcdefgh", "ab", "aa", "a"},
		{"c", "a", "z", "aa", "s", "ab", "abcdefgh", "b"},
	}
	rising := []string{"a", "aa", "ab", "abcdefgh", "b", "c", "s", "z"}
	for i, streams := range orders {
		for _, queries := range orders {
			p := newPair(t)
			for _, name := range streams {
				p.say(t, [2]string{"create " + name + " at int", "0"})
			}
			for _, name := range queries {
				p.say(t, [2]string{"register " + name + " select at as n from " + streams[i], "0"})
			}
			for range 20 {
				a, b := p.b.Names()
				if !slices.Equal(a, rising) || !slices.Equal(b, rising) {
					t.Fatalf("%q, %q", a, b)
				}
			}
			for n, name := range queries {
				p.say(t, [2]string{"remove " + name, "0"})
				left := slices.Sorted(slices.Values(queries[n+1:]))
				if a, b := p.b.Names(); !slices.Equal(a, rising) || !slices.Equal(b, left) {
					t.Fatalf("%q, %q", a, b)
				}
			}
		}
	}
}

// TestAskingChangesNothing is of P1 and P2 of DOC.md: however often something is asked, the answers to what comes are the same.
func TestAskingChangesNothing(t *testing.T) {
	p, quiet := begun(t), begun(t)
	for i, text := range []string{"append s 6,'b'", "remove q", "register q select count as n from s group by k window 5", "append s 7,'c'", "append s 70,'c'"} {
		for from := -1; from < 4; from++ {
			for _, name := range []string{"q", "s", "t"} {
				p.b.Outs(name, from)
				p.b.Rows(name)
				p.b.Names()
				p.b.Index()
			}
		}
		c := cmd(t, "0 9 "+text)
		c.Seq += i
		if a, b := p.do(t, c), quiet.do(t, c); a != b {
			t.Errorf("%s: %s and %s", text, a, b)
		}
		if a, b := p.state(t), quiet.state(t); a != b {
			t.Errorf("%s: %s and %s", text, a, b)
		}
	}
}

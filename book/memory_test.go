package book_test

import (
	"fmt"
	"runtime"
	"slices"
	"strings"
	"testing"
	"unsafe"

	"sluicebook/api"
	"sluicebook/book"
)

// said are commands of which queries tell texts that come from rows, from values in the query, and from aggregates.
var said = []string{
	"0 1 create s at int,k text,t text",
	"0 2 register q select k as p, 'own' as q, if(at > 1, k, 'own') as r from s where k <> 'no'",
	"0 3 register p select least(k) as p, most('own') as q, most(if(at > 1, k, 'own')) as r from s where k <> 'no' group by k, t window 4 slide 2",
	"0 4 create s k text",
	"1 1 append s 1,'a','x'",
	"1 2 append s -1,'b','y'",
	"1 3 append s 2,'b','y'",
	"0 5 register s select t as p from s where t = 'x' or k = 'aa'",
	"1 4 append s 2,'no','x'",
	"1 4 append s 1,'z','z'",
	"1 5 append s 1,'c','z'",
	"1 6 append s 3,'a','x'",
	"0 6 remove s",
	"0 7 create t k text",
	"1 7 append s 3,'aa','z'",
	"0 8 register s select k as q, 'it''s' as n from t",
	"2 1 append t 'end'",
	"1 8 append s 5,'a','y'",
	"1 9 append s 9,'c','z'",
}

// TestNothingWritten is of P2 and P4 of DOC.md: no list that is handed in is written into, nor what lies behind it; nor is that read.
func TestNothingWritten(t *testing.T) {
	p := newPair(t)
	for _, text := range said {
		c := cmd(t, text)
		c.Row = append(slices.Clone(c.Row), api.Val{Type: 9}, words("k"), words("\xff"))[:len(c.Row)]
		all := func() string { return fmt.Sprint(c, c.Row[:cap(c.Row)]) }
		ahead := all()
		p.do(t, c)
		p.hold(t)
		p.do(t, c)
		if got := all(); got != ahead {
			t.Errorf("%s: %s is now %s", text, ahead, got)
		}
	}
}

// TestNothingKept is of P2 of DOC.md: a command, its texts and its row may be written over behind the call, and so may names that are asked.
func TestNothingKept(t *testing.T) {
	p := newPair(t)
	for _, text := range said {
		var over overs
		c := cmd(t, text)
		loose := api.Cmd{What: c.What, Session: c.Session, Seq: c.Seq, Name: over.text(c.Name), Text: over.text(c.Text), Row: over.row(c.Row)}
		n, err := p.b.Do(loose)
		over.all()
		if got, want := answer(t, n, err), p.m.do(t, c); got != want {
			t.Errorf("%s: got %s, want %s", text, got, want)
		}
		for _, name := range []string{"s", "q", "t"} {
			p.b.Outs(over.text(name), 0)
			p.b.Rows(over.text(name))
		}
		over.all()
		p.hold(t)
	}
}

// overs are what is to be done to write over all memory that was handed in.
type overs []func()

func (o *overs) all() {
	for _, do := range *o {
		do()
	}
	*o = nil
}

// text is one whose memory is written over later, as a caller's might be.
func (o *overs) text(s string) string {
	b := []byte(s)
	*o = append(*o, func() {
		for i := range b {
			b[i] = '#'
		}
	})
	return unsafe.String(unsafe.SliceData(b), len(b))
}

func (o *overs) row(r []api.Val) []api.Val {
	r = slices.Clone(r)
	for i, v := range r {
		r[i].S = o.text(v.S)
	}
	*o = append(*o, func() { clear(r) })
	return r
}

// TestFresh is of P2 of DOC.md: what comes out shares no memory with what was handed in, nor with what else comes out, and the caller may write over it.
func TestFresh(t *testing.T) {
	p := newPair(t)
	seen := map[*byte]bool{}
	told := 0
	for _, text := range said {
		c := cmd(t, text)
		note(seen, c.Name, c.Text)
		for _, v := range c.Row {
			note(seen, v.S)
		}
		p.do(t, c)
		for range 2 {
			a, b := p.b.Names()
			if !note(seen, a...) || !note(seen, b...) {
				t.Errorf("%s: a text of %q or %q is shared", text, a, b)
			}
			for _, name := range slices.Clone(b) {
				outs, err := p.b.Outs(name, 0)
				told += overwrite(t, seen, outs)
				half, bad := p.b.Outs(name, len(outs)/2)
				told += overwrite(t, seen, half)
				if err != nil || bad != nil {
					t.Errorf("%s: %v, %v", name, err, bad)
				}
			}
			fill(a, "written over")
			fill(b, "written over")
		}
		p.hold(t)
	}
	if told < 100 {
		t.Errorf("%d Outs", told)
	}
}

// overwrite holds that the texts of Outs lie nowhere else, and writes over all of them, as far as their memory goes.
func overwrite(t *testing.T, seen map[*byte]bool, outs []api.Out) int {
	t.Helper()
	for _, o := range outs {
		for _, v := range o.Row {
			if !note(seen, v.S) {
				t.Errorf("a text of %v is shared", o.Row)
			}
		}
		fill(o.Row, api.Val{Type: api.Text, S: "written over"})
	}
	n := len(outs)
	fill(outs, api.Out{Err: api.ErrFuel})
	return n
}

func fill[T any](l []T, v T) {
	whole := l[:cap(l)]
	for i := range whole {
		whole[i] = v
	}
}

// note notes where texts lie; false: one of them lies where one did.
func note(seen map[*byte]bool, texts ...string) bool {
	apart := true
	for _, s := range texts {
		if s == "" {
			continue
		}
		at := unsafe.StringData(s)
		apart = apart && !seen[at]
		seen[at] = true
	}
	return apart
}

// TestAppendedTo is of P2 of DOC.md: what is appended to Outs by one caller is seen by no other, and not by the Book.
func TestAppendedTo(t *testing.T) {
	p := begun(t)
	first, _ := p.b.Outs("q", 0)
	names, _ := p.b.Names()
	_ = append(first, api.Out{Err: api.ErrFuel})
	_ = append(names, "zz")
	_ = append(first[0].Row, number(1))
	p.say(t, [2]string{"append s 6,'b'", "2"})
	second, _ := p.b.Outs("q", 0)
	_ = append(second[:1], api.Out{Err: api.ErrFuel})
	p.told(t, "q", "0:5,'a' 0:6,'b'")
	if got := shown(t, first); got != "0:5,'a'" {
		t.Errorf("what was told is now %s", got)
	}
	p.hold(t)
}

// TestForgets is of what may be kept: not what was removed, nor commands that came to nothing.
func TestForgets(t *testing.T) {
	b := book.New()
	seq := 0
	do := func(what int, name, text string, r []api.Val) {
		t.Helper()
		seq++
		if _, err := b.Do(api.Cmd{What: what, Session: 3, Seq: seq, Name: name, Text: text, Row: r}); err != nil && name != "no" {
			t.Fatalf("%d %s: %v", what, name, err)
		}
	}
	do(api.Create, "s", "at int,k text", nil)
	rows := 0
	several := func(n int) uint64 {
		for range n {
			do(api.Register, "q", "select k as m, '"+strings.Repeat("z", 40)+"' as n from s", nil)
			if rows < 300 {
				rows++
				do(api.Append, "s", "", []api.Val{number(rows), words("k")})
			}
			do(api.Append, "no", strings.Repeat("z", 1000), nil)
			do(api.Create, "no", strings.Repeat("z", 1000), nil)
			do(api.Remove, "q", "", nil)
		}
		runtime.GC()
		var all runtime.MemStats
		runtime.ReadMemStats(&all)
		return all.HeapAlloc
	}
	first := several(500)
	if last := several(20_000); last > first+1_000_000 {
		t.Errorf("%d bytes behind 500 rounds, and %d behind all", first, last)
	}
	runtime.KeepAlive(b)
}

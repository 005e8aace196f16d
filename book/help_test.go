package book_test

import (
	"fmt"
	"slices"
	"strconv"
	"strings"
	"testing"

	"sluicebook/api"
	"sluicebook/book"
	"sluicebook/plain"
	"sluicebook/row"
)

func number(n int) api.Val { return api.Val{Type: api.Int, N: n} }

func words(s string) api.Val { return api.Val{Type: api.Text, S: s} }

// one reads a row that is to be one.
func one(t *testing.T, text string) []api.Val {
	t.Helper()
	r, err := row.Parse(text)
	if err != nil {
		t.Fatalf("%q: %v", text, err)
	}
	return r
}

// cmd reads a command: session, Seq, what, name, and the rest, a blank between.
func cmd(t *testing.T, text string) api.Cmd {
	t.Helper()
	l := append(strings.SplitN(text, " ", 5), "")
	if len(l) < 5 {
		t.Fatalf("%q is no command", text)
	}
	session, err := strconv.Atoi(l[0])
	seq, bad := strconv.Atoi(l[1])
	what := 1 + slices.Index([]string{"create", "append", "register", "remove"}, l[2])
	if err != nil || bad != nil || what == 0 {
		t.Fatalf("%q is no command", text)
	}
	c := api.Cmd{What: what, Session: session, Seq: seq, Name: l[3], Text: l[4]}
	if what == api.Append {
		c.Text, c.Row = "", one(t, l[4])
	}
	return c
}

// answer writes what a Do answers: its number, or its error's name, and beside an error no number.
func answer(t *testing.T, n int, err error) string {
	t.Helper()
	if err == nil {
		return strconv.Itoa(n)
	}
	if n != 0 {
		t.Errorf("%d beside %v", n, err)
	}
	return plain.Told(err).Error()
}

// shown writes Outs, blanks between: where the window begins, `:`, and the row, or the error's name.
func shown(t *testing.T, outs []api.Out) string {
	t.Helper()
	var l []string
	for _, o := range outs {
		text, err := row.Print(o.Row)
		if err != nil || (len(o.Row) == 0) != (o.Err != api.OK) {
			t.Errorf("no Out: %v", o)
		}
		if o.Err != api.OK {
			text = o.Err.Error()
		}
		l = append(l, strconv.Itoa(o.From)+":"+text)
	}
	return strings.Join(l, " ")
}

func sameOuts(a, b api.Out) bool {
	return a.Err == b.Err && a.From == b.From && slices.Equal(a.Row, b.Row)
}

// show tells what was handed in, but no more than can be read.
func show(c api.Cmd) string { return fmt.Sprintf("%.600s", fmt.Sprintf("%+v", c)) }

// pair is a Book, and what it is held against.
type pair struct {
	b *book.Book
	m *model
	s []string // what is asked of besides what there is
}

func newPair(t *testing.T) *pair {
	t.Helper()
	p := &pair{b: book.New(), m: &model{}, s: []string{"", "s", "t", "u", "q", "select", "abcdefghi", "S", "s ", "\xff"}}
	p.hold(t)
	return p
}

// do does a command with both, and holds the answer.
func (p *pair) do(t *testing.T, c api.Cmd) string {
	t.Helper()
	n, err := p.b.Do(c)
	got := answer(t, n, err)
	if want := p.m.do(t, c); got != want {
		t.Errorf("%s: got %s, want %s", show(c), got, want)
	}
	if p.b.Index() != len(p.m.log) {
		t.Errorf("%s: Index is %d, want %d", show(c), p.b.Index(), len(p.m.log))
	}
	return got
}

// hold holds all that can be asked.
func (p *pair) hold(t *testing.T) {
	t.Helper()
	if p.b.Index() != len(p.m.log) {
		t.Errorf("Index is %d, want %d", p.b.Index(), len(p.m.log))
	}
	streams, queries := p.m.streams(), p.m.queries()
	for range 2 {
		a, b := p.b.Names()
		if !slices.Equal(a, keys(streams)) || !slices.Equal(b, keys(queries)) {
			t.Errorf("Names: %q, %q, want %q, %q", a, b, keys(streams), keys(queries))
		}
	}
	for _, name := range slices.Concat(p.s, keys(streams), keys(queries)) {
		got, err := p.b.Rows(name)
		if want := p.m.rowsOf(name); answer(t, got, err) != want {
			t.Errorf("Rows of %q: %d, %v, want %s", name, got, err, want)
		}
		p.holdOuts(t, name)
	}
}

// holdOuts holds Outs of a name, from each place on, and from places that are none.
func (p *pair) holdOuts(t *testing.T, name string) {
	t.Helper()
	want, how := p.m.outs(t, name)
	for from := -2; from <= len(want)+2; from++ {
		rest, bad := []api.Out(nil), how
		switch {
		case how != api.OK:
		case from < 0 || from > len(want):
			bad = api.ErrRange
		default:
			rest = want[from:]
		}
		got, err := p.b.Outs(name, from)
		if plain.Told(err) != bad || !slices.EqualFunc(got, rest, sameOuts) {
			t.Errorf("Outs of %q from %d: got  %v, %v\nwant %v, %v", name, from, got, err, rest, bad)
		}
	}
}

// play does commands, holds each answer, and all that can be asked behind each.
func (p *pair) play(t *testing.T, said ...[2]string) {
	t.Helper()
	for _, s := range said {
		if got := p.do(t, cmd(t, s[0])); got != s[1] {
			t.Errorf("%s: got %s, want %s", s[0], got, s[1])
		}
		p.hold(t)
	}
}

// say does commands of session 0, each of a Seq more than the one ahead, likewise.
func (p *pair) say(t *testing.T, said ...[2]string) {
	t.Helper()
	for _, s := range said {
		p.play(t, [2]string{fmt.Sprint("0 ", p.next(), " ", s[0]), s[1]})
	}
}

// next is a Seq of session 0 that is greater than its last.
func (p *pair) next() int {
	seq := 0
	for _, e := range p.m.log {
		if e.c.Session == 0 {
			seq = e.c.Seq
		}
	}
	return seq + 1
}

// told holds what a query has told, in all, as it is written out.
func (p *pair) told(t *testing.T, name, want string) {
	t.Helper()
	outs, err := p.b.Outs(name, 0)
	if got := shown(t, outs); got != want || err != nil {
		t.Errorf("%s has told %s, %v, want %s", name, got, err, want)
	}
}

// stays does a command that answers so, and holds that it changes nothing but what counts.
func (p *pair) stays(t *testing.T, c api.Cmd, want string) {
	t.Helper()
	ahead := p.state(t)
	if got := p.do(t, c); got != want {
		t.Errorf("%s: got %s, want %s", show(c), got, want)
	}
	if now := p.state(t); now != ahead {
		t.Errorf("%s: %s is now %s", show(c), ahead, now)
	}
	p.hold(t)
}

// state is all that can be asked of a Book, but Index.
func (p *pair) state(t *testing.T) string {
	t.Helper()
	streams, queries := p.b.Names()
	text := fmt.Sprintf("%q %q", streams, queries)
	for _, name := range streams {
		n, err := p.b.Rows(name)
		text += fmt.Sprint("\n", name, " ", answer(t, n, err))
	}
	for _, name := range queries {
		outs, err := p.b.Outs(name, 0)
		text += fmt.Sprint("\n", name, " ", shown(t, outs), " ", err)
	}
	return text
}

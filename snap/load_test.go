package snap_test

import (
	"fmt"
	"math"
	"math/rand"
	"slices"
	"strconv"
	"strings"
	"testing"

	"sluicebook/api"
	"sluicebook/plain"
	"sluicebook/snap"
	"sluicebook/stream"
)

// holdError holds that Load tells an error, and gives no Stream.
func holdError(t *testing.T, q api.Query, l []api.Col, text string, want api.Errno) {
	t.Helper()
	if s, err := snap.Load(q, l, text); plain.Told(err) != want || s != nil {
		t.Errorf("%s\nLoad(%.2000q): got %v, %v; want %v", show(q, l), text, s, err, want)
	}
}

// holdAny holds that of whatever text there is ErrSyntax, or a Stream whose Save is just that; and that it goes on, with rows in reach, and those are Saved and Loaded as any others. It gives whether there is one.
func holdAny(t *testing.T, q api.Query, l []api.Col, text string, rows [][]api.Val) bool {
	t.Helper()
	s, err := snap.Load(q, l, text)
	if err != nil {
		if plain.Told(err) != api.ErrSyntax || s != nil {
			t.Errorf("%s\nLoad(%.2000q): %v, %v", show(q, l), text, s, err)
		}
		return false
	}
	if got := snap.Save(s); got != text {
		t.Errorf("%s\nLoad(%.2000q): Save tells %.2000q", show(q, l), text, got)
	}
	if o, err := snap.Load(q, l, text); err != nil || snap.Save(o) != text {
		t.Errorf("%s\nLoad(%.2000q) again: %v", show(q, l), text, err)
	}
	goOn(t, q, l, s, rows)
	return true
}

// goOn holds that a Stream, of whatever text, and one that is Saved and Loaded ahead of each call tell the same, and that Peek tells what Close does.
func goOn(t *testing.T, q api.Query, l []api.Col, s *stream.Stream, rows [][]api.Val) {
	t.Helper()
	for i, r := range append(slices.Clone(rows), nil) {
		o := loaded(t, q, l, s)
		if s.Open() != o.Open() || s.Rows() != o.Rows() || s.Open() < 0 || s.Open() > 10 || s.Rows() < 0 {
			t.Errorf("%s\n%d: %d and %d open, %d and %d rows", show(q, l), i, s.Open(), o.Open(), s.Rows(), o.Rows())
		}
		peek := snap.Peek(s)
		if got := loaded(t, q, l, s).Close(); !slices.EqualFunc(peek, got, sameOuts) {
			t.Errorf("%s\n%d: Peek tells %v, and Close %v", show(q, l), i, peek, got)
		}
		a, err := s.Push(r)
		b, how := o.Push(r)
		if !slices.EqualFunc(a, b, sameOuts) || plain.Told(err) != plain.Told(how) || snap.Save(s) != snap.Save(o) {
			t.Errorf("%s\n%d: %v, %v, and of the loaded one %v, %v", show(q, l), i, a, err, b, how)
		}
	}
	s.Close()
	if got, want := snap.Save(s), snap.Save(made(t, q, l)); got != want {
		t.Errorf("%s\nbehind Close: %q, want %q", show(q, l), got, want)
	}
}

// spoiling is a Stream that knows much, of a query and columns, and rows that are to come.
type spoiling struct {
	q    api.Query
	l    []api.Col
	text string
	rows [][]api.Val
}

// spoilings are such of each kind.
func spoilings(t *testing.T) []spoiling {
	t.Helper()
	var all []spoiling
	for _, c := range []struct{ text, cols, rows, more string }{
		{"select k as p from s where k <> 'no'", "at int,k text", "1,'a' 0,'b' 1,'no'", "0,'c'"},
		{counted + "5", "at int,k int", "", "0,1 9,1"},
		{counted + "5 slide 4", "at int,k int", "12,0 13,-7 13,0", "14,0 14,5 15,-7"},
		{"select count as n, sum(v) as o, least(k) as p, most(b) as r from s group by k, b window 6 slide 3", "k text,at int,b bool,v int",
			"'a,b',7,true,9223372036854775807 'it''s',8,false,0 'a,b',8,true,9223372036854775807 '',8,true,-9223372036854775808", "'a,b',8,true,-5 '',8,true,-9223372036854775808 'x',8,false,1 'x',12,false,1"},
		{"select least(at) as n, most(v) as o from s group by at window 2", "at int,v int", "4,-9223372036854775808 4,7 5,9223372036854775807", "5,1 6,1"},
	} {
		q, l := asked(t, c.text), heads(t, c.cols)
		s := made(t, q, l)
		for _, r := range table(t, c.rows) {
			if _, err := s.Push(r); err != nil {
				t.Fatal(err)
			}
		}
		all = append(all, spoiling{q, l, snap.Save(s), table(t, c.more)})
	}
	return all
}

// TestLoadNewFirst is of P1: chapter 15's New tells its errors ahead of what the text is.
func TestLoadNewFirst(t *testing.T) {
	cols := heads(t, "at int,k text,b bool")
	as := func(*api.Query) {}
	const plainText, groupText = "select k as p from s", "select count as n, sum(at) as m from s group by k window 6 slide 2"
	texts := []string{"", "x", "\x00\xff", "\n", strings.Repeat("9", 100_000)}
	for _, s := range spoilings(t) {
		texts = append(texts, s.text, s.text+"x")
	}
	for i, c := range []struct {
		text   string
		l      []api.Col
		how    api.Errno
		change func(q *api.Query)
	}{
		{plainText, nil, api.ErrNone, as},
		{groupText, make([]api.Col, 7), api.ErrFull, as},
		{plainText, []api.Col{{Name: "at", Type: 1}, {Name: "at", Type: 1}}, api.ErrClash, as},
		{plainText, []api.Col{{Name: "at", Type: 4}}, api.ErrRange, as},
		{plainText, []api.Col{{Name: "At", Type: 1}}, api.ErrSyntax, as},
		{plainText, cols, api.ErrShape, func(q *api.Query) { q.Slide = 1 }},
		{groupText, cols, api.ErrShape, func(q *api.Query) { q.Size = 0 }},
		{groupText, cols, api.ErrRange, func(q *api.Query) { q.Size = 1001 }},
		{groupText, cols, api.ErrRange, func(q *api.Query) { q.Slide = 0 }},
		{groupText, cols, api.ErrNone, func(q *api.Query) { q.Group, q.Aggs = nil, nil }},
		{groupText, cols, api.ErrFull, func(q *api.Query) { q.Aggs = make([]api.Agg, 6) }},
		{"select k as p from s where at", cols, api.ErrType, as},
		{"select count as n from s group by k, k window 6", cols, api.ErrClash, as},
		{groupText, cols[1:], api.ErrNone, as},
		{"select count as n from s group by k window 6", heads(t, "at text,k int"), api.ErrType, as},
		{groupText, heads(t, "at bool,k int"), api.ErrType, as},
	} {
		q := asked(t, c.text)
		c.change(&q)
		if _, err := stream.New(q, c.l); plain.Told(err) != c.how {
			t.Errorf("%d: New tells %v, and %v is wanted", i, err, c.how)
		}
		for _, text := range texts {
			holdError(t, q, c.l, text, c.how)
		}
	}
	holdError(t, api.Query{}, nil, snap.Save(nil), api.ErrNone)
}

// TestLoadNoText is of P1: ErrSyntax of what is no text at all.
func TestLoadNoText(t *testing.T) {
	for _, s := range spoilings(t) {
		for _, text := range []string{
			"", " ", "\n", "0", "x", "\x00", "\xff\xfe", "nil", "null", "{}", "stream", "select k as p from s", "true", "'", "''",
			strings.Repeat("\n", 1000), strings.Repeat("stream", 1000), strings.Repeat("'", 999), strings.Repeat("9", 100_000),
		} {
			holdError(t, s.q, s.l, text, api.ErrSyntax)
		}
	}
}

// TestLoadCut is of P1: a text that is cut off anywhere, ahead or behind, and one that has something behind it, or ahead of it.
func TestLoadCut(t *testing.T) {
	for _, s := range spoilings(t) {
		holdAny(t, s.q, s.l, s.text, s.rows)
		for i := range s.text {
			holdAny(t, s.q, s.l, s.text[:i], s.rows)
			holdAny(t, s.q, s.l, s.text[i:], s.rows)
			holdAny(t, s.q, s.l, s.text+s.text[i:], s.rows)
			holdAny(t, s.q, s.l, s.text[:i]+s.text, s.rows)
		}
		for _, more := range []string{" ", "\n", "\x00", "0", "x", "'", ",", "\r", "\t", " \n", "\n\n", "count\n", "sum 0\n", "best 'x'\n", "window 9\n", "group 1 1\n", "stream 0 0\n", "\xff"} {
			holdError(t, s.q, s.l, more+s.text, api.ErrSyntax)
			if holdAny(t, s.q, s.l, s.text+more, s.rows) {
				t.Errorf("%q was taken behind %q", more, s.text)
			}
		}
	}
}

// TestLoadSigns is of P1: a text in which a sign was changed, left out, or put in, at each place.
func TestLoadSigns(t *testing.T) {
	var taken int
	for _, s := range spoilings(t) {
		for i := range len(s.text) + 1 {
			ahead, behind := s.text[:i], s.text[i:]
			for _, sign := range " \n'\",;:-+_.0123456789aegstz~\x00\x7f\u00e9" {
				put := ahead + string(sign) + behind
				holdAny(t, s.q, s.l, put, s.rows)
				if behind != "" && holdAny(t, s.q, s.l, ahead+string(sign)+behind[1:], s.rows) {
					taken++
				}
			}
			if behind == "" {
				continue
			}
			holdAny(t, s.q, s.l, ahead+behind[1:], s.rows)
			holdAny(t, s.q, s.l, ahead+string(behind[0]^32)+behind[1:], s.rows)
			if len(behind) > 1 {
				holdAny(t, s.q, s.l, ahead+string([]byte{behind[1], behind[0]})+behind[2:], s.rows)
			}
		}
	}
	if taken < 100 {
		t.Errorf("%d were taken", taken)
	}
}

// TestLoadNumbers is of P1: a text in which a number was written otherwise is none; one in which it is another number, near or far, may be one.
func TestLoadNumbers(t *testing.T) {
	otherwise := func(n string) []string {
		bare := strings.TrimPrefix(n, "-")
		sign := strings.TrimSuffix(n, bare)
		return []string{"+" + n, sign + "0" + bare, sign + "00" + bare, "0x" + bare, n + ".0", n + "e0", " " + n, n + " ", sign + bare[:1] + "_" + bare[1:], "--" + n, "-0" + bare}
	}
	others := []string{
		"0", "-0", "1", "-1", "2", "3", "5", "40", "41", "1000000", "1000001", "9223372036854775806", "9223372036854775807", "9223372036854775808", "-9223372036854775808", "-9223372036854775809",
		"18446744073709551615", "18446744073709551616", "-18446744073709551616", strings.Repeat("9", 30), strings.Repeat("9", 5_000), "", "''", "true",
		"0,0", "0,1", "1,0", "9223372036854775808,0", "9223372036854775807,18446744073709551615", "1,2,3,4,5", "18446744073709551615,18446744073709551615",
	}
	for _, s := range spoilings(t) {
		numbers(s.text, func(ahead, n, behind string) {
			for _, o := range otherwise(n) {
				holdError(t, s.q, s.l, ahead+o+behind, api.ErrSyntax)
			}
			for _, o := range others {
				holdAny(t, s.q, s.l, ahead+o+behind, s.rows)
			}
		})
	}
}

// numbers goes over the numbers of a text that stand outside of its Texts.
func numbers(text string, do func(ahead, n, behind string)) {
	within := false
	for i := 0; i < len(text); i++ {
		if text[i] == '\'' {
			within = !within
		}
		if within || !strings.ContainsRune("-0123456789", rune(text[i])) {
			continue
		}
		from := i
		for i < len(text) && strings.ContainsRune("-0123456789", rune(text[i])) {
			i++
		}
		do(text[:from], text[from:i], text[i:])
	}
}

// TestLoadOthers is of P1: the text of a Stream with another query, or other columns.
func TestLoadOthers(t *testing.T) {
	c := chooser{Rand: rand.New(rand.NewSource(163))}
	var taken, refused int
	for range 2_000 {
		c.cols()
		s := made(t, c.asked(t), c.l)
		for _, r := range c.rows(c.Intn(30), oneOf(c, 0, 1, 2)) {
			if _, err := s.Push(r); err != nil {
				t.Fatal(err)
			}
		}
		if c.Intn(2) == 0 {
			c.cols()
		}
		q := c.asked(t)
		if holdAny(t, q, c.l, snap.Save(s), c.rows(5, 2)) {
			taken++
		} else {
			refused++
		}
	}
	if taken < 200 || refused < 200 {
		t.Errorf("%d were taken, and %d refused", taken, refused)
	}
}

// TestLoadWritten is of P1: texts that no Stream was saved as, written by hand: which are taken, and what comes of them.
func TestLoadWritten(t *testing.T) {
	q, l := asked(t, "select count as n, sum(v) as m, most(k) as o from s group by k window 4 slide 2"), heads(t, "at int,k text,v int")
	const head, group = "stream 9 7\n", "group 1 'a'\ncount\nsum 5\nbest 'a'\n"
	for _, c := range []struct {
		text string
		how  api.Errno
		want string
	}{
		{"stream 0 0\n", api.OK, ""},
		{"stream 9 0\n", api.OK, ""},
		{head, api.OK, ""},
		{head + "window 4\n" + group, api.OK, "4:'a',1,5,'a'"},
		{head + "window 6\n" + group, api.OK, "6:'a',1,5,'a'"},
		{head + "window 4\n" + group + "window 6\n" + group, api.OK, "4:'a',1,5,'a' 6:'a',1,5,'a'"},
		{head + "window 4\ngroup 9 'b'\ncount\nsum 18446744073709551615\nbest ''\n", api.OK, "4:'b',9,-1,''"},
		{head + "window 4\ngroup 9 'b'\ncount\nsum 0,1\nbest ''\n", api.OK, "4:ErrOver"},
		{"stream 9223372036854775807 7\nwindow 4\ngroup 9223372036854775807 'b'\ncount\nsum 7,7,7\nbest ''\n", api.OK, "4:ErrOver"},
		{"stream 9 0\nwindow 0\n" + group, api.OK, "0:'a',1,5,'a'"},
		{"stream 9 1000000\nwindow 999998\n" + group + "window 1000000\n" + group, api.OK, "999998:'a',1,5,'a' 1000000:'a',1,5,'a'"},
		{"stream 9 1000001\n", api.ErrSyntax, ""},
		{"stream 9 -1\n", api.ErrSyntax, ""},
		{"stream -9 7\n", api.ErrSyntax, ""},
		{"stream 0 7\n", api.ErrSyntax, ""},
		{"stream 9\n", api.ErrSyntax, ""},
		{"stream\n", api.ErrSyntax, ""},
		{"stream 9 7 7\n", api.ErrSyntax, ""},
		{head + head, api.ErrSyntax, ""},
		{"window 4\n" + group + head, api.ErrSyntax, ""},
		{head + group, api.ErrSyntax, ""},
		{head + "window 4\n", api.ErrSyntax, ""},
		{head + "window\n" + group, api.ErrSyntax, ""},
		{head + "window 5\n" + group, api.ErrSyntax, ""},
		{head + "window 2\n" + group, api.ErrSyntax, ""},
		{head + "window 8\n" + group, api.ErrSyntax, ""},
		{head + "window -2\n" + group, api.ErrSyntax, ""},
		{head + "window 6\n" + group + "window 4\n" + group, api.ErrSyntax, ""},
		{head + "window 4\n" + group + "window 4\n" + group, api.ErrSyntax, ""},
		{head + "window 4\n" + group + group, api.ErrSyntax, ""},
		{head + "window 4\n" + group + "count\n", api.ErrSyntax, ""},
		{head + "window 4\ngroup 1 'a'\n", api.ErrSyntax, ""},
		{head + "window 4\ngroup 1 'a'\ncount\nsum 5\n", api.ErrSyntax, ""},
		{head + "window 4\ngroup 1 'a'\nsum 5\ncount\nbest 'a'\n", api.ErrSyntax, ""},
		{head + "window 4\ngroup 1 'a'\ncount\nsum\nbest 'a'\n", api.ErrSyntax, ""},
		{head + "window 4\ngroup 1 'a'\ncount\nsum -5\nbest 'a'\n", api.ErrSyntax, ""},
		{head + "window 4\ngroup 1 'a'\ncount\nsum 5,0\nbest 'a'\n", api.ErrSyntax, ""},
		{head + "window 4\ngroup 1 'a'\ncount\nsum 5\nbest 7\n", api.ErrSyntax, ""},
		{head + "window 4\ngroup 1 'a'\ncount\nsum 5\nbest\n", api.ErrSyntax, ""},
		{head + "window 4\ngroup 1 'a'\ncount\nsum 5\nleast 'a'\n", api.ErrSyntax, ""},
		{head + "window 4\ngroup 0 'a'\ncount\nsum 5\nbest 'a'\n", api.ErrSyntax, ""},
		{head + "window 4\ngroup 0 'a'\ncount\ncount\ncount\n", api.ErrSyntax, ""},
		{head + "window 4\ngroup 10 'a'\ncount\nsum 5\nbest 'a'\n", api.ErrSyntax, ""},
		{head + "window 4\ngroup -1 'a'\ncount\nsum 5\nbest 'a'\n", api.ErrSyntax, ""},
		{head + "window 4\ngroup 1 5\ncount\nsum 5\nbest 'a'\n", api.ErrSyntax, ""},
		{head + "window 4\ngroup 1 'a','a'\ncount\nsum 5\nbest 'a'\n", api.ErrSyntax, ""},
		{head + "window 4\ngroup 1 'a\ncount\nsum 5\nbest 'a'\n", api.ErrSyntax, ""},
		{head + "window 4\ngroup 1 \ncount\nsum 5\nbest 'a'\n", api.ErrSyntax, ""},
		{head + "window 4\ngroup 1\ncount\nsum 5\nbest 'a'\n", api.ErrSyntax, ""},
		{head + "window 4\ngroup 1 '" + strings.Repeat("x", 41) + "'\ncount\nsum 5\nbest 'a'\n", api.ErrSyntax, ""},
		{head + "window 4\ngroup 1 'b'\ncount\nsum 5\nbest 'a'\n" + group, api.ErrSyntax, ""},
	} {
		rows := table(t, "7,'a',9223372036854775807 6,'b',1 7,'b',-9223372036854775808 8,'',3 9,'c',1 12,'a',1")
		if holdAny(t, q, l, c.text, rows) != (c.how == api.OK) {
			t.Errorf("%q: want %v", c.text, c.how)
		}
		if s, err := snap.Load(q, l, c.text); err == nil {
			if got := shown(t, snap.Peek(s)); got != c.want {
				t.Errorf("%q: Peek tells %s, want %s", c.text, got, c.want)
			}
		}
	}
}

// TestLoadGroups is of P1: not more than MaxGroups groups are open in a window.
func TestLoadGroups(t *testing.T) {
	q, l := asked(t, counted+"5"), heads(t, "at int,k int")
	text := "stream 100 3\nwindow 0\n"
	for k := range 41 {
		text += "group 1 " + strconv.Itoa(k) + "\ncount\n"
		if holdAny(t, q, l, text, table(t, "3,0 4,77 4,78 5,1")) != (k < 40) {
			t.Errorf("%d groups", k+1)
		}
	}
}

// TestLoadGreatest is of P1: of as many rows as a number can tell it goes on, and is Saved and Loaded.
func TestLoadGreatest(t *testing.T) {
	q, l := asked(t, "select count as n from s group by k window 5"), heads(t, "at int,k int")
	for _, n := range []int{math.MaxInt, math.MaxInt - 1} {
		text := fmt.Sprint("stream ", n, " 3\nwindow 0\ngroup ", n-1, " 1\ncount\ngroup ", n, " 2\ncount\n")
		if !holdAny(t, q, l, text, table(t, "3,1 3,2 4,1 4,2 4,1 9,9 9,9")) {
			t.Errorf("%q was not taken", text)
		}
	}
}

// TestLoadWild is of P1: whatever the text, of the words of texts by chance, and of any bytes.
func TestLoadWild(t *testing.T) {
	c := chooser{Rand: rand.New(rand.NewSource(164))}
	all := spoilings(t)
	var parts []string
	for _, s := range all {
		parts = append(parts, strings.SplitAfter(s.text, "\n")...)
	}
	for range 20_000 {
		s := all[c.Intn(len(all))]
		text := ""
		if c.Intn(3) > 0 {
			text = fmt.Sprint("stream ", c.Intn(9), " ", c.Intn(9), "\n")
		}
		for range c.Intn(9) {
			text += oneOf(c, parts...)
			if c.Intn(30) == 0 {
				text += oneOf(c, "\x00", "\n", " ", "\xff", "'", ",", "0", "-")
			}
		}
		holdAny(t, s.q, s.l, text, s.rows)
		b := []byte(text)
		for range 1 + c.Intn(3) {
			if len(b) > 0 {
				b[c.Intn(len(b))] = byte(c.Intn(256))
			}
		}
		holdAny(t, s.q, s.l, string(b), s.rows)
	}
}

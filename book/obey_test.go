package book_test

import (
	"fmt"
	"strings"
	"testing"

	"sluicebook/api"
	"sluicebook/book"
	"sluicebook/plain"
)

// names are so many of those that may be.
func names(n int) []string {
	var l []string
	for i := range n {
		l = append(l, "n"+string(rune('a'+i)))
	}
	return l
}

// TestCreate is of K2: a stream of each schema that may be, by a Name of one and of MaxName letters, or a word of the language.
func TestCreate(t *testing.T) {
	p := newPair(t)
	p.say(t,
		[2]string{"create s at int", "0"},
		[2]string{"create abcdefgh a int,b bool,c text,d int,e bool,f text", "0"},
		[2]string{"create z k text", "0"},
		[2]string{"create select b bool", "0"},
		[2]string{"append s 1", "1"},
		[2]string{"append abcdefgh 1,true,'c',2,false,'f'", "1"},
		[2]string{"append z 'k'", "1"},
		[2]string{"append select true", "1"},
	)
}

// TestCreateErrors is of K2: the errors of ParseSchema, ErrClash, ErrFull, in that order; then nothing is changed.
func TestCreateErrors(t *testing.T) {
	p := newPair(t)
	wrong := [][2]string{
		{"", "ErrSyntax"},
		{"at", "ErrSyntax"},
		{"at int ", "ErrSyntax"},
		{"at int, k text", "ErrSyntax"},
		{"At int", "ErrSyntax"},
		{"at number", "ErrSyntax"},
		{"\xff", "ErrSyntax"},
		{"at int,abcdefghi int", "ErrSyntax"},
		{"a int,b int,c int,d int,e int,f int,g int", "ErrFull"},
		{"at int,at int", "ErrClash"},
	}
	hold := func(name, want string) {
		t.Helper()
		for _, w := range wrong {
			p.stays(t, api.Cmd{What: api.Create, Seq: p.next(), Name: name, Text: w[0]}, w[1])
		}
		p.stays(t, api.Cmd{What: api.Create, Seq: p.next(), Name: name, Text: "at int"}, want)
	}
	for i, name := range names(8) {
		p.say(t, [2]string{"create " + name + " k text", "0"})
		hold(name, "ErrClash")
		if i == 7 {
			hold("s", "ErrFull")
		}
	}
	hold("na", "ErrClash")
	hold("s", "ErrFull")
	// Of each stream the columns are as they were at first.
	for _, name := range names(8) {
		p.say(t, [2]string{"append " + name + " 1", "ErrType"}, [2]string{"append " + name + " 'k'", "1"})
	}
}

// TestManySchemas is of K2: Create's errors are those of ParseSchema, whatever the text.
func TestManySchemas(t *testing.T) {
	some := []string{"", "a", "at", "A", "abcdefghi", " ", ",", " int", " text", " bool", "int", "a int", "a int,", "\x00"}
	for _, a := range some {
		for _, b := range some {
			for _, c := range some {
				cmd := api.Cmd{What: api.Create, Seq: 1, Name: "s", Text: a + b + c}
				n, err := book.New().Do(cmd)
				if got, want := answer(t, n, err), (&model{}).answer(t, cmd); got != want {
					t.Errorf("%q: got %s, want %s", cmd.Text, got, want)
				}
			}
		}
	}
}

// TestAppend is of K2: the number of the row, from 1, by stream; each query of that stream is told, and no other one.
func TestAppend(t *testing.T) {
	p := newPair(t)
	p.say(t,
		[2]string{"create s at int", "0"},
		[2]string{"create t at int", "0"},
		[2]string{"register q select at as n from s", "0"},
		[2]string{"register p select at + 1 as n from s where at > 5", "0"},
		[2]string{"register o select at * 2 as n from t", "0"},
		[2]string{"append s 5", "1"},
		[2]string{"append s 6", "2"},
		[2]string{"append t 7", "1"},
		[2]string{"append s 6", "3"},
		[2]string{"append t 8", "2"},
	)
	p.told(t, "q", "0:5 0:6 0:6")
	p.told(t, "p", "0:7 0:7")
	p.told(t, "o", "0:14 0:16")
}

// TestAppendErrors is of K2: ErrNone, Check's errors, ErrFull at the 301st row; then no query is told.
func TestAppendErrors(t *testing.T) {
	p := begun(t)
	wrong := []struct {
		row  []api.Val
		want string
	}{
		{nil, "ErrShape"},
		{one(t, "5"), "ErrShape"},
		{one(t, "5,'a','a'"), "ErrShape"},
		{one(t, "'a',5"), "ErrType"},
		{one(t, "true,'a'"), "ErrType"},
		{[]api.Val{{Type: 9}, words("a")}, "ErrRange"},
		{[]api.Val{{Type: 9}}, "ErrShape"},
		{[]api.Val{number(5), words(strings.Repeat("z", 41))}, "ErrFull"},
		{[]api.Val{number(5), words("\xff")}, "ErrSyntax"},
		{[]api.Val{words("a"), words("\xff")}, "ErrType"},
		{[]api.Val{{Type: api.Int, S: "a"}, words("a")}, "ErrShape"},
	}
	hold := func() {
		t.Helper()
		for _, w := range wrong {
			p.stays(t, api.Cmd{What: api.Append, Seq: p.next(), Name: "s", Row: w.row}, w.want)
			p.stays(t, api.Cmd{What: api.Append, Seq: p.next(), Name: "t", Row: w.row}, "ErrNone")
			p.stays(t, api.Cmd{What: api.Append, Seq: p.next(), Name: "q", Row: w.row}, "ErrNone")
		}
		p.stays(t, api.Cmd{What: api.Append, Seq: p.next(), Name: "t", Row: one(t, "5,'a'")}, "ErrNone")
	}
	hold()
	for i := 2; i <= 300; i++ {
		if got := p.do(t, api.Cmd{What: api.Append, Seq: p.next(), Name: "s", Row: one(t, "6,'b'")}); got != fmt.Sprint(i) {
			t.Fatalf("row %d: %s", i, got)
		}
	}
	hold()
	for range 3 {
		p.stays(t, api.Cmd{What: api.Append, Seq: p.next(), Name: "s", Row: one(t, "6,'b'")}, "ErrFull")
	}
	// Another stream has room of its own, and a query may still be registered, and is told of nothing.
	p.say(t,
		[2]string{"create t at int,k text", "0"},
		[2]string{"append t 6,'b'", "1"},
		[2]string{"register p select at as n from s", "0"},
		[2]string{"append s 6,'b'", "ErrFull"},
	)
	p.told(t, "p", "")
	p.told(t, "q", "0:5,'a'"+strings.Repeat(" 0:6,'b'", 299))
}

// TestFullByRows is of K2: what counts are the rows that came, not those that were refused, nor whether a query was told of them.
func TestFullByRows(t *testing.T) {
	p := newPair(t)
	p.say(t, [2]string{"create s at int", "0"})
	for i := 1; i <= 300; i++ {
		for _, w := range [][2]string{{"'a'", "ErrType"}, {"5", fmt.Sprint(i)}} {
			if got := p.do(t, api.Cmd{What: api.Append, Seq: p.next(), Name: "s", Row: one(t, w[0])}); got != w[1] {
				t.Fatalf("%s %d: %s", w[0], i, got)
			}
		}
	}
	p.say(t, [2]string{"append s 'a'", "ErrType"}, [2]string{"append s 5", "ErrFull"})
}

// TestRegister is of K2: a query is told of the rows behind its registering alone, from its own beginning on.
func TestRegister(t *testing.T) {
	p := newPair(t)
	p.say(t,
		[2]string{"create s at int,k text", "0"},
		[2]string{"append s 50,'a'", "1"},
		[2]string{"register q select k as m from s where at < 20", "0"},
		[2]string{"register s select count as n from s group by k window 10", "0"},
		[2]string{"append s 3,'b'", "2"}, // not late, as the one of 50 came ahead
		[2]string{"append s 12,'c'", "3"},
		[2]string{"register abcdefgh select count as n from s group by k window 10", "0"},
		[2]string{"append s 25,'d'", "4"},
		[2]string{"append s 24,'e'", "5"},
		[2]string{"append s 35,'f'", "6"},
	)
	p.told(t, "q", "0:'b' 0:'c'")
	p.told(t, "s", "0:'b',1 10:'c',1 0:ErrState 20:'d',1")
	p.told(t, "abcdefgh", "0:ErrState 20:'d',1")
}

// TestRegisterErrors is of K2: the How of Parse, ErrNone, New's errors, ErrClash, ErrFull, in that order; then nothing is changed.
func TestRegisterErrors(t *testing.T) {
	p := newPair(t)
	p.say(t, [2]string{"create s at int,k text", "0"}, [2]string{"create b k text", "0"}, [2]string{"create c at bool,k text", "0"}, [2]string{"append s 5,'a'", "1"})
	wrong := [][2]string{
		{"", "ErrSyntax"},
		{"select", "ErrSyntax"},
		{"select at as n from", "ErrSyntax"},
		{"select count as n from s", "ErrSyntax"},
		{"select at as n from s ", ""},
		{"select 'a as n from no", "ErrSyntax"},
		{"select \xff as n from s", "ErrSyntax"},
		{"select at as n from abcdefghi", "ErrSyntax"},
		{"select at as n from select", "ErrSyntax"},
		{"select 99999999999999999999 as n from s", "ErrRange"},
		{"select " + strings.Repeat("(", 31) + "1" + strings.Repeat(")", 31) + " as n from s", ""},
		{"select at as n from s where " + strings.Repeat("not ", 40) + "true", "ErrFull"},
		{"select at as n from s" + strings.Repeat(" ", 400), "ErrFull"},
		{"select at as n from no", "ErrNone"},
		{"select zz as n from no", "ErrNone"},
		{"select at as n from q", "ErrNone"},
		{"select zz as n from s", "ErrNone"},
		{"select at as n from b", "ErrNone"},
		{"select at as n from s where k", "ErrType"},
		{"select at + k as n from s", "ErrType"},
		{"select at as n, k as n from s", "ErrClash"},
		{"select count as n from s group by k window 1001", "ErrRange"},
		{"select count as n from s group by k window 11 slide 1", "ErrRange"},
		{"select count as n from s group by k window 0", "ErrShape"},
		{"select count as n from s group by zz window 5", "ErrNone"},
		{"select count as k from s group by k window 5", "ErrClash"},
		{"select sum(k) as n from s group by k window 5", "ErrType"},
		{"select count as n from b group by k window 5", "ErrNone"},
		{"select count as n from c group by k window 5", "ErrType"},
	}
	right := "select at as n from s"
	hold := func(name, want string) {
		t.Helper()
		for _, w := range wrong {
			if w[1] == "" {
				w[1] = want
			}
			p.stays(t, api.Cmd{What: api.Register, Seq: p.next(), Name: name, Text: w[0]}, w[1])
		}
		p.stays(t, api.Cmd{What: api.Register, Seq: p.next(), Name: name, Text: right}, want)
	}
	for i, name := range names(8) {
		p.say(t, [2]string{"register " + name + " " + right, "0"}, [2]string{fmt.Sprint("append s ", i, ",'b'"), fmt.Sprint(i + 2)})
		hold(name, "ErrClash")
		if i == 7 {
			hold("s", "ErrFull")
		}
	}
	hold("na", "ErrClash")
	hold("s", "ErrFull")
	for i, name := range names(8) {
		var want []string
		for at := i; at < 8; at++ {
			want = append(want, fmt.Sprint("0:", at))
		}
		p.told(t, name, strings.Join(want, " "))
	}
}

// TestRegisterCut is of K2: a query of which anything is left out is told Parse's How, or ErrNone, or New's.
func TestRegisterCut(t *testing.T) {
	p := newPair(t)
	p.say(t, [2]string{"create s at int,k text", "0"})
	hold := func(text string) {
		t.Helper()
		seq := p.b.Index() + 1
		c := api.Cmd{What: api.Register, Seq: seq, Name: "q", Text: text}
		n, err := p.b.Do(c)
		got, want := answer(t, n, err), p.m.answer(t, c)
		if got != want {
			t.Errorf("%q: got %s, want %s", text, got, want)
		}
		if _, err := p.b.Do(api.Cmd{What: api.Remove, Seq: seq + 1, Name: "q"}); (err == nil) != (want == "0") {
			t.Errorf("%q: Remove: %v", text, err)
		}
	}
	for _, text := range []string{
		"select at + 1 as n, len(k) as m from s where at > 5 and k <> 'it''s'",
		"select count as n, most(k) as m from s where at > 5 group by k window 10 slide 5",
	} {
		for from := range text {
			for to := from; to <= len(text); to++ {
				hold(text[:from] + text[to:])
			}
		}
	}
}

// TestRemove is of K2: what was removed is told nothing more; one of that name may be registered anew, and begins with nothing told.
func TestRemove(t *testing.T) {
	p := newPair(t)
	p.say(t,
		[2]string{"create s at int", "0"},
		[2]string{"register q select at as n from s", "0"},
		[2]string{"register p select count as n from s group by at window 10", "0"},
		[2]string{"append s 5", "1"},
		[2]string{"append s 15", "2"},
		[2]string{"remove q", "0"},
		[2]string{"append s 16", "3"},
		[2]string{"remove q", "ErrNone"},
		[2]string{"append s 7", "4"},
		[2]string{"register q select at + 1 as n from s", "0"},
	)
	p.told(t, "q", "")
	p.say(t, [2]string{"append s 17", "5"}, [2]string{"append s 20", "6"})
	p.told(t, "q", "0:18 0:21")
	p.told(t, "p", "0:5,1 0:ErrState 10:15,1 10:16,1 10:17,1")
	p.say(t,
		[2]string{"remove p", "0"},
		[2]string{"register p select count as n from s group by at window 10", "0"},
		[2]string{"append s 3", "7"}, // not late for what was registered anew
		[2]string{"append s 12", "8"},
	)
	p.told(t, "p", "0:3,1")
	p.told(t, "q", "0:18 0:21 0:4 0:13")
}

// TestRemoveErrors is of K2: ErrNone, also of a stream's name; then nothing is changed.
func TestRemoveErrors(t *testing.T) {
	p := newPair(t)
	p.stays(t, cmd(t, "0 1 remove q"), "ErrNone")
	p = begun(t)
	for _, name := range []string{"s", "p", "qq", "abcdefgh", "select"} {
		p.stays(t, api.Cmd{What: api.Remove, Seq: p.next(), Name: name}, "ErrNone")
	}
	p.say(t, [2]string{"remove q", "0"})
	p.stays(t, api.Cmd{What: api.Remove, Seq: p.next(), Name: "q"}, "ErrNone")
}

// TestRemoveMakesRoom is of K2: where there were MaxNames queries, one more may be registered when one is gone.
func TestRemoveMakesRoom(t *testing.T) {
	p := newPair(t)
	p.say(t, [2]string{"create s at int", "0"})
	for _, name := range names(8) {
		p.say(t, [2]string{"register " + name + " select at as n from s", "0"})
	}
	p.say(t,
		[2]string{"register q select at as n from s", "ErrFull"},
		[2]string{"remove nc", "0"},
		[2]string{"register q select at as n from s", "0"},
		[2]string{"register nc select at as n from s", "ErrFull"},
		[2]string{"append s 5", "1"},
	)
	p.told(t, "q", "0:5")
}

// TestSameName is of K2: a query and a stream may bear the same name, and are apart.
func TestSameName(t *testing.T) {
	p := newPair(t)
	p.say(t,
		[2]string{"create s at int", "0"},
		[2]string{"register s select at as n from s", "0"},
		[2]string{"register t select at + 1 as n from s", "0"},
		[2]string{"create t at int", "0"},
		[2]string{"append s 5", "1"},
		[2]string{"append t 6", "1"},
		[2]string{"remove s", "0"},
		[2]string{"append s 7", "2"},
		[2]string{"create s at int", "ErrClash"},
		[2]string{"register t select at as n from t", "ErrClash"},
		[2]string{"register s select at as n from t", "0"},
		[2]string{"append t 8", "2"},
	)
	p.told(t, "t", "0:6 0:8")
	p.told(t, "s", "0:8")
}

// TestErrorsAreNumbers is of P3 of DOC.md: each error is one of the program's.
func TestErrorsAreNumbers(t *testing.T) {
	p := begun(t)
	for _, text := range []string{"0 4 create s at int", "0 5 create t at", "0 6 append s 5", "0 7 append t 5", "0 8 register q select at as n from s", "0 9 register p select", "0 10 register p select at as n from t", "0 11 register p select zz as n from s", "0 12 remove p"} {
		for range 2 {
			if _, err := p.b.Do(cmd(t, text)); err == nil || plain.Told(err) <= 0 || plain.Told(err) > api.ErrFuel {
				t.Errorf("%s: %v", text, err)
			}
		}
	}
}

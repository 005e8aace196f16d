package batch_test

import (
	"fmt"
	"slices"
	"testing"

	"sluicebook/agg"
	"sluicebook/api"
	"sluicebook/batch"
	"sluicebook/plain"
)

// teller gives one that is to be made.
func teller(t *testing.T, q api.Query, l []api.Col) *batch.Teller {
	t.Helper()
	s, err := batch.NewTeller(q, l)
	if err != nil {
		t.Fatalf("%s: %v", show(q, l, nil), err)
	}
	return s
}

// TestLearn is of snap's P1: at each place what Learned what another one knew goes on as that does.
func TestLearn(t *testing.T) {
	l := heads(t, "at int,k text,b bool")
	rows := table(t, "3,'a',true 2,'a',true 4,'b,''',false 4,'',false -1,'a',true 6,'a',true 6,'no',true 6,'c',true 13,'a',false 12,'b',true 13,'c',true 40,'c',true")
	for _, text := range []string{
		"select k as p from s where k <> 'no'",
		"select count as n from s where k <> 'no' group by k window 5",
		"select sum(9 / (at - 4)) as n, most(k) as m from s group by b, k window 4 slide 1",
	} {
		q := asked(t, text)
		for place := range len(rows) + 1 {
			s, o := teller(t, q, l), teller(t, q, l)
			for _, r := range rows[:place] {
				pushed(t, s, r)
			}
			// What it knew ahead is forgotten.
			pushed(t, o, rows[len(rows)-1])
			if err := o.Learn(s.Known()); err != nil {
				t.Fatalf("%s: at %d: %v", text, place, err)
			}
			for _, r := range rows[place:] {
				if got, want := pushed(t, o, r), pushed(t, s, r); got != want {
					t.Errorf("%s: at %d: %v: %s, want %s", text, place, r, got, want)
				}
			}
			if got, want := shown(t, o.End()), shown(t, s.End()); got != want {
				t.Errorf("%s: at %d: End: %s, want %s", text, place, got, want)
			}
		}
	}
}

// TestPeek is of snap's P1: what End would tell, as often as it is asked, and nothing is changed.
func TestPeek(t *testing.T) {
	s := teller(t, asked(t, counted+"4 slide 2"), heads(t, "at int,k int"))
	for range 2 {
		for _, c := range []struct{ row, told, want string }{
			{"3,1", " OK 2", "0:1,1 2:1,1"},
			{"3,0", " OK 2", "0:0,1 0:1,1 2:0,1 2:1,1"},
			{"1,0", "0:ErrState OK 2", "0:0,1 0:1,1 2:0,1 2:1,1"},
			{"9,7", "0:0,1 0:1,1 2:0,1 2:1,1 OK 2", "6:7,1 8:7,1"},
		} {
			if got := pushed(t, s, table(t, c.row)[0]); got != c.told {
				t.Errorf("%s: %s, want %s", c.row, got, c.told)
			}
			for range 2 {
				if got := shown(t, s.Peek()); got != c.want {
					t.Errorf("Peek behind %s: %s, want %s", c.row, got, c.want)
				}
			}
		}
		if got := shown(t, s.End()); got != "6:7,1 8:7,1" || len(s.Peek()) > 0 {
			t.Errorf("%s, and then %v", got, s.Peek())
		}
	}
	if got := teller(t, asked(t, "select k as p from s"), heads(t, "k int")).Peek(); len(got) > 0 {
		t.Errorf("without a group: %v", got)
	}
}

func truth(n int) api.Val { return api.Val{Type: api.Bool, N: n} }

// learning is what a Teller of a group by k and b, with windows of 4 slide 2, may know: both windows that hold the time 7.
func learning() batch.Known {
	rows := agg.Known{Rows: 2, Parts: []agg.Found{{}, {Best: number(5)}}}
	groups := func() []batch.Group {
		return []batch.Group{{Key: []api.Val{number(1), truth(1)}, Known: rows}, {Key: []api.Val{number(2), truth(0)}, Known: rows}, {Key: []api.Val{number(2), truth(1)}, Known: rows}}
	}
	return batch.Known{Last: 7, Windows: []batch.Window{{From: 4, Groups: groups()}, {From: 6, Groups: groups()}}}
}

// TestLearnShape is of snap's P1: what is not known of the query and columns is refused, and nothing is changed.
func TestLearnShape(t *testing.T) {
	q, l := asked(t, "select count as n, most(at) as m from s group by k, b window 4 slide 2"), heads(t, "b bool,at int,k int")
	many := func(n int) []batch.Group {
		groups := slices.Repeat(learning().Windows[0].Groups[:1], n)
		for i := range groups {
			groups[i].Key = []api.Val{number(i), truth(0)}
		}
		return groups
	}
	for name, c := range map[string]struct {
		how api.Errno
		do  func(k *batch.Known)
	}{
		"as it is":       {api.OK, func(*batch.Known) {}},
		"none":           {api.OK, func(k *batch.Known) { *k = batch.Known{} }},
		"no window":      {api.OK, func(k *batch.Known) { k.Windows = nil }},
		"the first":      {api.OK, func(k *batch.Known) { k.Windows = k.Windows[:1] }},
		"the other":      {api.OK, func(k *batch.Known) { k.Windows = k.Windows[1:] }},
		"earlier":        {api.OK, func(k *batch.Known) { k.Last = 6 }},
		"too early":      {api.ErrShape, func(k *batch.Known) { k.Last = 5 }},
		"too late":       {api.ErrShape, func(k *batch.Known) { k.Last = 8 }},
		"below 0":        {api.ErrShape, func(k *batch.Known) { k.Last = -1 }},
		"none below 0":   {api.ErrShape, func(k *batch.Known) { *k = batch.Known{Last: -1} }},
		"last":           {api.OK, func(k *batch.Known) { *k = batch.Known{Last: 1_000_000} }},
		"beyond":         {api.ErrShape, func(k *batch.Known) { *k = batch.Known{Last: 1_000_001} }},
		"begins below 0": {api.ErrShape, func(k *batch.Known) { k.Last, k.Windows[0].From = 0, -2 }},
		"no slide":       {api.ErrShape, func(k *batch.Known) { k.Windows[0].From = 5 }},
		"turned":         {api.ErrShape, func(k *batch.Known) { slices.Reverse(k.Windows) }},
		"twice":          {api.ErrShape, func(k *batch.Known) { k.Windows[1].From = 4 }},
		"another":        {api.ErrShape, func(k *batch.Known) { k.Windows = append(k.Windows, k.Windows[1]) }},
		"no groups":      {api.ErrShape, func(k *batch.Known) { k.Windows[1].Groups = nil }},
		"40 groups":      {api.OK, func(k *batch.Known) { k.Windows[1].Groups = many(40) }},
		"41 groups":      {api.ErrShape, func(k *batch.Known) { k.Windows[1].Groups = many(41) }},
		"groups turned":  {api.ErrShape, func(k *batch.Known) { slices.Reverse(k.Windows[1].Groups) }},
		"group twice":    {api.ErrShape, func(k *batch.Known) { k.Windows[1].Groups[2] = k.Windows[1].Groups[1] }},
		"no key":         {api.ErrShape, func(k *batch.Known) { k.Windows[1].Groups[0].Key = nil }},
		"short key":      {api.ErrShape, func(k *batch.Known) { k.Windows[1].Groups[0].Key = []api.Val{number(1)} }},
		"long key":       {api.ErrShape, func(k *batch.Known) { k.Windows[1].Groups[0].Key = []api.Val{number(1), truth(0), truth(0)} }},
		"type of key":    {api.ErrShape, func(k *batch.Known) { k.Windows[1].Groups[0].Key = []api.Val{truth(1), number(0)} }},
		"wrong key":      {api.ErrShape, func(k *batch.Known) { k.Windows[1].Groups[0].Key = []api.Val{number(1), truth(2)} }},
		"no rows":        {api.ErrShape, func(k *batch.Known) { k.Windows[1].Groups[0].Known = agg.Known{Parts: make([]agg.Found, 2)} }},
		"rows below 0":   {api.ErrShape, func(k *batch.Known) { k.Windows[1].Groups[0].Known.Rows = -2 }},
		"not found":      {api.ErrShape, func(k *batch.Known) { k.Windows[1].Groups[0].Known.Parts = make([]agg.Found, 2) }},
		"found less":     {api.ErrShape, func(k *batch.Known) { k.Windows[1].Groups[0].Known.Parts = make([]agg.Found, 1) }},
	} {
		s, k := teller(t, q, l), learning()
		pushed(t, s, table(t, "true,4,3")[0])
		want := fmt.Sprint(s.Known(), s.Open())
		c.do(&k)
		handed := fmt.Sprint(k)
		if how := plain.Told(s.Learn(k)); how != c.how {
			t.Errorf("%s: got %v, want %v", name, how, c.how)
		}
		if c.how == api.OK {
			want = fmt.Sprint(k, len(k.Windows))
		}
		if got := fmt.Sprint(s.Known(), s.Open()); got != want {
			t.Errorf("%s: it knows %s, want %s", name, got, want)
		}
		if got := fmt.Sprint(k); got != handed {
			t.Errorf("%s: what was handed in is now %s", name, got)
		}
	}
}

// TestLearnCols is of snap's P1: without a group nothing is known but that.
func TestLearnCols(t *testing.T) {
	s := teller(t, asked(t, "select k as p from s"), heads(t, "at int,k int"))
	for _, k := range []batch.Known{{Last: 1}, {Last: -1}, {Windows: make([]batch.Window, 1)}, learning()} {
		if how := plain.Told(s.Learn(k)); how != api.ErrShape {
			t.Errorf("%v: %v", k, how)
		}
	}
	if how := plain.Told(s.Learn(s.Known())); how != api.OK || s.Open() != 0 {
		t.Error(how)
	}
}

// TestLearnApart is of P2: what is Learned is not kept, and what is known comes out fresh.
func TestLearnApart(t *testing.T) {
	s := teller(t, asked(t, "select count as n, most(at) as m from s group by k, b window 4 slide 2"), heads(t, "b bool,at int,k int"))
	k, want := learning(), fmt.Sprint(learning())
	if err := s.Learn(k); err != nil {
		t.Fatal(err)
	}
	for range 2 {
		for _, w := range k.Windows {
			for _, g := range w.Groups {
				clear(g.Key)
				clear(g.Known.Parts)
			}
			clear(w.Groups)
		}
		clear(k.Windows)
		if k = s.Known(); fmt.Sprint(k) != want {
			t.Errorf("it knows %v", k)
		}
	}
}

package split_test

import (
	"fmt"
	"slices"
	"testing"
	"unsafe"

	"sluicebook/api"
	"sluicebook/split"
)

// toJoin is out of order in each way, and of which types differ behind the groups.
func toJoin() [][]api.Out {
	return [][]api.Out{
		{of(5, words("b"), number(1)), fault(9, api.ErrOver), of(0, words("it's"), words("own"))},
		nil,
		{fault(3, api.ErrState), of(0, words("a"), truth(1)), of(5, words("b"), words("b"))},
		{of(0, words("it's"), number(4))},
	}
}

// roomy is a list with others behind its end.
func roomy[T any](l []T, behind T) []T {
	return append(slices.Clone(l), behind, behind, behind)[:len(l)]
}

// TestNothingWritten is of P2 and P4 of DOC.md: no list that is handed in is written into, nor what lies behind it; nor is that read.
func TestNothingWritten(t *testing.T) {
	row, cols := roomy([]api.Val{number(7), words("a")}, number(1)), roomy([]int{1, 0}, 9)
	rows := roomy([][]api.Val{row, row[:1], row}, nil)
	behind := func() string { return fmt.Sprint(row[:cap(row)], cols[:cap(cols)], rows[:cap(rows)]) }
	was := behind()
	holdPart(t, row, cols, 5)
	holdPart(t, row[:1], cols, 5)
	holdParts(t, rows, cols, 5)
	holdParts(t, rows, cols[1:], 5)
	holdParts(t, rows[:1], cols, 5)
	if got := behind(); got != was {
		t.Errorf("%s is now %s", was, got)
	}
}

// TestNothingPutInOrder is of P2 and P4 of DOC.md: the lists of Outs stand as they did, also with an error.
func TestNothingPutInOrder(t *testing.T) {
	plain := toJoin()
	l := roomy(plain, []api.Out{of(0, words("behind"))})
	for i, part := range l {
		l[i] = roomy(part, of(-1, words("behind")))
		for j, o := range l[i] {
			l[i][j].Row = roomy(o.Row, words("behind"))
		}
	}
	behind := func() string {
		s := fmt.Sprint(l[:cap(l)])
		for _, part := range l {
			s += fmt.Sprint(part[:cap(part)])
			for _, o := range part {
				s += fmt.Sprint(o.Row[:cap(o.Row)])
			}
		}
		return s
	}
	was := behind()
	for _, groups := range []int{-1, 0, 1, 2, 3, 6, 7} {
		got, how := holdJoin(t, l, groups)
		if again, howAgain := holdJoin(t, plain, groups); !slices.EqualFunc(got, again, sameOuts) || how != howAgain {
			t.Errorf("%d groups: %v, %v, but %v, %v", groups, got, how, again, howAgain)
		}
	}
	if got := behind(); got != was {
		t.Errorf("%s is now %s", was, got)
	}
}

// TestPartsFresh is of P2 of DOC.md: no two lists share memory, in one call or two.
func TestPartsFresh(t *testing.T) {
	rows := numbered(0, 1, 2, 3, 4, 5, 6, 7, 8, 9, 10, 11, 12, 13, 14, 16, 24)
	for n := 1; n <= 8; n++ {
		first := holdParts(t, rows, []int{0}, n)
		want := fmt.Sprint(first)
		second := holdParts(t, rows, []int{0}, n)
		all := slices.Concat(first, second)
		for i, l := range all {
			l = l[:cap(l)]
			for j := range l {
				l[j] = -1 - i
			}
		}
		for i, l := range all {
			if slices.ContainsFunc(l, func(x int) bool { return x != -1-i }) {
				t.Errorf("list %d shares memory: %v", i, l)
			}
		}
		clear(first[:cap(first)])
		if second[0] == nil {
			t.Errorf("two calls share the list of lists")
		}
		if again := holdParts(t, rows, []int{0}, n); fmt.Sprint(again) != want {
			t.Errorf("%v, and then %v", want, again)
		}
	}
}

// TestJoinFresh is of P2 of DOC.md: what comes out shares no memory with what is handed in, nor with what else comes out.
func TestJoinFresh(t *testing.T) {
	l := toJoin()
	was := fmt.Sprint(l)
	seen := map[*byte]bool{}
	for _, o := range slices.Concat(l...) {
		noteTexts(seen, o.Row)
	}
	var all [][]api.Out
	for range 3 {
		outs, how := holdJoin(t, l, 1)
		if how != api.OK || len(outs) != 7 {
			t.Fatalf("%v, %v", outs, how)
		}
		for _, o := range outs {
			if !noteTexts(seen, o.Row) {
				t.Errorf("a text of %v is shared", o.Row)
			}
		}
		all = append(all, outs)
	}
	holdApart(t, all)
	if got := fmt.Sprint(l); got != was {
		t.Errorf("%s is now %s", was, got)
	}
}

// noteTexts notes where texts lie; false: one of them lies where one did.
func noteTexts(seen map[*byte]bool, row []api.Val) bool {
	apart := true
	for _, v := range row {
		if v.S == "" {
			continue
		}
		at := unsafe.StringData(v.S)
		apart = apart && !seen[at]
		seen[at] = true
	}
	return apart
}

// holdApart writes over each list, as far as its memory goes, and holds that no other has changed.
func holdApart(t *testing.T, all [][]api.Out) {
	t.Helper()
	for i, o := range slices.Concat(all...) {
		row := o.Row[:cap(o.Row)]
		for j := range row {
			row[j] = number(i)
		}
	}
	for i, o := range slices.Concat(all...) {
		if slices.ContainsFunc(o.Row, func(v api.Val) bool { return v != number(i) }) {
			t.Errorf("%v shares memory", o.Row)
		}
	}
	for i, outs := range all {
		clear(outs[:cap(outs)])
		for _, later := range all[i+1:] {
			if later[0].Row == nil {
				t.Error("two lists of Outs share memory")
			}
		}
	}
}

// TestNothingKept is of P2 of DOC.md: what was handed in may be written over behind the call, and what came stays.
func TestNothingKept(t *testing.T) {
	l := toJoin()
	var over []func()
	for _, part := range l {
		for _, o := range part {
			for j := range o.Row {
				text, done := loose(o.Row[j].S)
				o.Row[j].S = text
				over = append(over, done, func() { o.Row[j] = number(99) })
			}
		}
		over = append(over, func() { clear(part) })
	}
	got, err := split.Join(l, 1)
	rows := [][]api.Val{{words("a")}, {words("b")}, {words("c")}, {words("a")}}
	cols := []int{0}
	parts, errParts := split.Parts(rows, cols, 2)
	if err != nil || errParts != nil {
		t.Fatal(err, errParts)
	}
	for _, do := range over {
		do()
	}
	clear(l)
	clear(rows)
	clear(cols)
	if want, _ := modelJoin(toJoin(), 1); !slices.EqualFunc(got, want, sameOuts) {
		t.Errorf("%v, want %v", got, want)
	}
	if !slices.EqualFunc(parts, [][]int{{1}, {0, 2, 3}}, slices.Equal) {
		t.Errorf("%v", parts)
	}
	holdJoin(t, toJoin(), 1)
}

// loose is a text whose memory is written over by the function that comes with it, as a caller's might be.
func loose(s string) (string, func()) {
	b := []byte(s)
	return unsafe.String(unsafe.SliceData(b), len(b)), func() {
		for i := range b {
			b[i] = '#'
		}
	}
}

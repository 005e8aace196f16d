package split_test

import (
	"math"
	"math/rand"
	"slices"
	"strings"
	"testing"

	"sluicebook/api"
	"sluicebook/split"
)

// wild gives a value of whatever is in reach.
func (c chooser) wild() api.Val {
	return api.Val{
		Type: oneOf(c, 1, 1, 2, 3, 3, 0, 4, -1, math.MinInt, math.MaxInt),
		N:    oneOf(c, 0, 0, 0, 1, 2, -1, math.MinInt, math.MaxInt, 1_000_003, c.Int()),
		S:    oneOf(c, "", "", "", "a", "\n", "\x00\xff", long(40), long(41), strings.Repeat("\xff", c.Intn(300))),
	}
}

func (c chooser) wildRow(most int) []api.Val {
	var row []api.Val
	for range c.Intn(most + 1) {
		row = append(row, c.wild())
	}
	return row
}

func (c chooser) wildNumber() int {
	return oneOf(c, 1, 2, 3, 5, 7, 8, 0, 6, 9, -1, math.MinInt, math.MaxInt, c.Int())
}

func (c chooser) wildCols(most int) []int {
	var cols []int
	for range c.Intn(4) {
		cols = append(cols, c.Intn(most))
		if c.Intn(9) == 0 {
			cols[len(cols)-1] = c.wildNumber()
		}
	}
	return cols
}

// TestAnyPart is of P1 of DOC.md: no call panics, whatever it is handed, and with an error there is nothing else.
func TestAnyPart(t *testing.T) {
	c := chooser{Rand: rand.New(rand.NewSource(21))}
	right := 0
	for range 20_000 {
		row := c.wildRow(7)
		cols, n := c.wildCols(4), c.wildNumber()
		holdPart(t, row, cols, n)
		rows := [][]api.Val{row}
		for range c.Intn(6) {
			rows = append(rows, c.wildRow(7))
		}
		if c.Intn(3) > 0 {
			rows = slices.DeleteFunc(rows, func(r []api.Val) bool { return len(r) < 4 })
		}
		holdParts(t, rows, cols, n)
		p, err := split.Part(row, cols, n)
		l, errParts := split.Parts(rows, cols, n)
		if err != nil && p != 0 || errParts != nil && len(l) > 0 {
			t.Errorf("%s: %d, %v, %v, %v", show(rows, cols, n), p, err, l, errParts)
		}
		if err == nil && errParts == nil {
			right++
		}
	}
	if right < 1_000 || right > 19_000 {
		t.Errorf("%d were right", right)
	}
}

// wildOuts are mostly such as go together.
func (c chooser) wildOuts(types []int) []api.Out {
	var l []api.Out
	for range c.Intn(5) {
		o := api.Out{Err: oneOf(c, 0, 0, 0, api.ErrOver, -1, 77), From: c.wildNumber()}
		for _, typ := range types {
			o.Row = append(o.Row, []api.Val{{}, number(c.wildNumber()), truth(c.Intn(2)), words(long(c.Intn(3)))}[typ])
		}
		switch c.Intn(20) {
		case 0:
			o.Row = nil
		case 1:
			o.Row = c.wildRow(9)
		case 2:
			o.Row = o.Row[:c.Intn(len(o.Row)+1)]
		case 3:
			o.Row = append(o.Row, number(0))
			o.Row[0] = oneOf(c, number(0), truth(1), words("a"))
		}
		l = append(l, o)
	}
	return l
}

// TestAnyJoin is of P1 of DOC.md: no call panics, whatever it is handed, and with an error there are no Outs.
func TestAnyJoin(t *testing.T) {
	c := chooser{Rand: rand.New(rand.NewSource(22))}
	met := map[api.Errno]int{}
	for range 20_000 {
		types := make([]int, c.Intn(8))
		for i := range types {
			types[i] = 1 + c.Intn(3)
		}
		l := make([][]api.Out, c.Intn(5))
		for i := range l {
			l[i] = c.wildOuts(types)
		}
		groups := min(c.Intn(7), len(types))
		if c.Intn(9) == 0 {
			groups = c.wildNumber()
		}
		got, how := holdJoin(t, l, groups)
		met[how]++
		if how != api.OK && len(got) > 0 {
			t.Errorf("%s: %v beside %v", show(l, groups), got, how)
		}
	}
	for _, how := range []api.Errno{api.OK, api.ErrRange, api.ErrShape, api.ErrType} {
		if met[how] < 500 {
			t.Errorf("%v came %d times", how, met[how])
		}
	}
	if met[api.ErrFull] < 20 || met[api.ErrSyntax] < 5 {
		t.Errorf("%v", met)
	}
}

// TestGreatest is of P1 and P5 of DOC.md: far more parts, Outs, values and places than a query could tell.
func TestGreatest(t *testing.T) {
	row := slices.Repeat([]api.Val{number(math.MaxInt), words(long(40)), number(math.MinInt)}, 1_000)
	var cols []int
	for i := range 100_000 {
		cols = append(cols, i%len(row))
	}
	holdPart(t, row, cols[:3_000], 8)
	if p, err := split.Part(row, cols, 7); err != nil || p < 0 || p > 6 {
		t.Errorf("%d, %v", p, err)
	}
	text := words(strings.Repeat("\xff", 1<<20))
	if p, err := split.Part([]api.Val{text}, []int{0}, 7); err != nil || p < 0 || p > 6 {
		t.Errorf("%d, %v", p, err)
	}
	l := make([][]api.Out, 1_000)
	for i := range l {
		for j := range 100 {
			l[i] = append(l[i], of(j%3, number(-i*j), number(i)), fault(i, api.ErrOver))
		}
	}
	got, err := split.Join(l, 2)
	if err != nil || len(got) != 200_000 || got[99_999].Row == nil || got[100_000].Row != nil || got[199_999].From != 999 {
		t.Errorf("%d, %v", len(got), err)
	}
	rows, _ := ahead(got)
	for i := range len(rows) - 1 {
		if isAhead(rows[i+1], rows[i], 2) {
			t.Errorf("%v stands behind %v", rows[i+1], rows[i])
		}
	}
}

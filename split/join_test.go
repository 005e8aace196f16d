package split_test

import (
	"math"
	"math/rand"
	"slices"
	"testing"

	"sluicebook/api"
	"sluicebook/plain"
	"sluicebook/split"
)

// of is what a group in a window tells.
func of(from int, row ...api.Val) api.Out { return api.Out{From: from, Row: row} }

// fault is what tells why nothing comes.
func fault(from int, how api.Errno) api.Out { return api.Out{From: from, Err: how} }

// TestJoin is of D2: orders that were made by hand.
func TestJoin(t *testing.T) {
	one, two, three := number(1), number(2), number(3)
	for _, c := range []struct {
		name   string
		l      [][]api.Out
		groups int
		want   []api.Out
	}{
		{"no parts", nil, 1, nil},
		{"parts with nothing", [][]api.Out{nil, {}, nil}, 1, nil},
		{"one part stays as it is", [][]api.Out{{of(0, one), of(0, two), of(5, one)}}, 1, []api.Out{of(0, one), of(0, two), of(5, one)}},
		{"one part is put in order", [][]api.Out{{of(5, one), of(0, two), of(0, one)}}, 1, []api.Out{of(0, one), of(0, two), of(5, one)}},
		{"by From ahead of values", [][]api.Out{{of(5, one)}, {of(0, two)}}, 1, []api.Out{of(0, two), of(5, one)}},
		{"a From below 0, and the edges", [][]api.Out{{of(math.MaxInt, one), of(0, one)}, {of(-1, one), of(math.MinInt, two)}}, 1,
			[]api.Out{of(math.MinInt, two), of(-1, one), of(0, one), of(math.MaxInt, one)}},
		{"by the first value", [][]api.Out{{of(0, two)}, {of(0, one)}, {of(0, number(-7))}}, 1, []api.Out{of(0, number(-7)), of(0, one), of(0, two)}},
		{"numbers at their edges", [][]api.Out{{of(0, number(math.MaxInt)), of(0, number(math.MinInt)), of(0, number(0))}}, 1,
			[]api.Out{of(0, number(math.MinInt)), of(0, number(0)), of(0, number(math.MaxInt))}},
		{"texts by bytes", [][]api.Out{{of(0, words("b")), of(0, words("ab")), of(0, words("a"))}, {of(0, words("")), of(0, words("B"))}}, 1,
			[]api.Out{of(0, words("")), of(0, words("B")), of(0, words("a")), of(0, words("ab")), of(0, words("b"))}},
		{"false ahead of true", [][]api.Out{{of(0, truth(1))}, {of(0, truth(0))}}, 1, []api.Out{of(0, truth(0)), of(0, truth(1))}},
		{"by the second value", [][]api.Out{{of(0, one, two), of(0, two, one)}, {of(0, one, one)}}, 2,
			[]api.Out{of(0, one, one), of(0, one, two), of(0, two, one)}},
		{"no more values than groups", [][]api.Out{{of(0, one, two)}, {of(0, one, one)}}, 1, []api.Out{of(0, one, two), of(0, one, one)}},
		{"no groups: by From alone", [][]api.Out{{of(5, two), of(0, three)}, {of(0, one), of(5, one)}}, 0,
			[]api.Out{of(0, three), of(0, one), of(5, two), of(5, one)}},
		{"equals by part, then as they stand", [][]api.Out{{of(0, one, two), of(0, one, one)}, {of(0, one, two), of(0, one, number(0))}}, 1,
			[]api.Out{of(0, one, two), of(0, one, one), of(0, one, two), of(0, one, number(0))}},
		{"others go behind, part by part, as they stand", [][]api.Out{
			{fault(9, api.ErrOver), of(7, two), fault(3, api.ErrState)}, nil, {fault(0, api.ErrFull), of(2, one), fault(math.MinInt, api.ErrRange)}}, 1,
			[]api.Out{of(2, one), of(7, two), fault(9, api.ErrOver), fault(3, api.ErrState), fault(0, api.ErrFull), fault(math.MinInt, api.ErrRange)}},
		{"others alone", [][]api.Out{{fault(9, 0)}, {fault(0, 77), fault(0, -1)}}, 6, []api.Out{fault(9, 0), fault(0, 77), fault(0, -1)}},
		{"an empty Row is none", [][]api.Out{{{Row: []api.Val{}, From: 1}}, {of(8, one)}}, 1, []api.Out{of(8, one), fault(1, 0)}},
		{"a Row beside an Err counts as a Row", [][]api.Out{{{Row: []api.Val{two}, Err: api.ErrOver, From: 4}}, {of(4, one)}}, 1,
			[]api.Out{of(4, one), {Row: []api.Val{two}, Err: api.ErrOver, From: 4}}},
		{"six columns", [][]api.Out{{of(0, one, one, one, one, one, two)}, {of(0, one, one, one, one, one, one, two)}}, 6,
			[]api.Out{of(0, one, one, one, one, one, one, two), of(0, one, one, one, one, one, two)}},
	} {
		got, how := holdJoin(t, c.l, c.groups)
		if !slices.EqualFunc(got, c.want, sameOuts) || how != api.OK {
			t.Errorf("%s: %v, %v, want %v", c.name, got, how, c.want)
		}
	}
}

func holdNoJoin(t *testing.T, name string, l [][]api.Out, groups int, want api.Errno) {
	t.Helper()
	if got, err := split.Join(l, groups); len(got) > 0 || plain.Told(err) != want {
		t.Errorf("%s: %v, %v, want %v", name, got, err, want)
	}
	holdJoin(t, l, groups)
}

// TestJoinRange is of D2: a number of columns that is none, whatever the parts are.
func TestJoinRange(t *testing.T) {
	for _, l := range [][][]api.Out{nil, {}, {nil}, {{of(0, number(1))}}, {{of(0, api.Val{})}}, {{fault(0, api.ErrOver)}}} {
		for _, groups := range []int{math.MinInt, -1, 7, 8, 300, 1<<32 + 1, math.MaxInt} {
			holdNoJoin(t, show(l, groups), l, groups, api.ErrRange)
		}
	}
}

// TestJoinShape is of D2: any one Row is shorter than there are groups, wherever it stands, and whatever the values are.
func TestJoinShape(t *testing.T) {
	full := []api.Val{number(1), words("a"), truth(1), number(2), words("b"), truth(0)}
	for groups := 1; groups <= 6; groups++ {
		for length := 1; length < groups; length++ {
			for at := range 4 {
				l := [][]api.Out{{of(0, full...), of(3, full...)}, nil, {of(2, full...), of(9, full...)}}
				l[at/2*2][at%2].Row = full[:length]
				holdNoJoin(t, show(l, groups), l, groups, api.ErrShape)
			}
		}
		holdJoin(t, [][]api.Out{{of(0, full[:groups]...)}, {of(0, full...), fault(0, api.ErrOver)}}, groups)
	}
	bad, one := api.Val{Type: 9}, number(1)
	holdNoJoin(t, "a value that is none ahead of it", [][]api.Out{{of(0, bad, bad)}, {of(0, one)}}, 2, api.ErrShape)
	holdNoJoin(t, "another type ahead of it", [][]api.Out{{of(0, one, one), of(0, words("a"), one)}, {of(0, one)}}, 2, api.ErrShape)
	holdNoJoin(t, "a value that is none in it", [][]api.Out{{of(0, one, one), of(0, bad)}}, 2, api.ErrShape)
	holdNoJoin(t, "all are too short", [][]api.Out{{of(0, one), of(1, one)}}, 6, api.ErrShape)
	if got, how := holdJoin(t, [][]api.Out{{fault(0, api.ErrOver)}, {{Row: []api.Val{}}}}, 6); len(got) != 2 || how != api.OK {
		t.Errorf("Outs with no Row are not asked: %v, %v", got, how)
	}
}

// TestJoinCompare is of D2: what is wrong with a value, held against the first Row's, is told row by row, value by value.
func TestJoinCompare(t *testing.T) {
	one, a := number(1), words("a")
	ranged, full, syntax, shape := api.Val{Type: 9}, words(long(41)), words("\n"), api.Val{Type: api.Int, S: "a"}
	for _, c := range []struct {
		name   string
		l      [][]api.Out
		groups int
		want   api.Errno
	}{
		{"another type", [][]api.Out{{of(0, one)}, {of(0, a)}}, 1, api.ErrType},
		{"another type in another window", [][]api.Out{{of(0, one)}, {of(5, truth(1))}}, 1, api.ErrType},
		{"another type at the second value", [][]api.Out{{of(0, one, a)}, {of(0, number(2), one)}}, 2, api.ErrType},
		{"another type is not asked", [][]api.Out{{of(0, one, a)}, {of(0, number(2), one)}}, 1, api.OK},
		{"another type is not asked of no groups", [][]api.Out{{of(0, one)}, {of(0, a)}}, 0, api.OK},
		{"types differ from place to place", [][]api.Out{{of(0, one, a, truth(1))}, {of(0, one, a, truth(0))}}, 3, api.OK},
		{"the only Row has a fault", [][]api.Out{{of(0, ranged)}}, 1, api.ErrRange},
		{"the first Row has a fault", [][]api.Out{{of(0, full)}, {of(0, one)}}, 1, api.ErrFull},
		{"the first Row is not the first Out", [][]api.Out{{fault(0, api.ErrOver)}, nil, {of(0, shape)}, {of(0, a)}}, 1, api.ErrShape},
		{"the last Row has a fault", [][]api.Out{{of(0, a), of(1, words("b"))}, {of(0, syntax)}}, 1, api.ErrSyntax},
		{"a Bool of 2", [][]api.Out{{of(0, truth(1))}, {of(0, truth(2))}}, 1, api.ErrRange},
		{"a Text with a number", [][]api.Out{{of(0, a)}, {of(0, api.Val{Type: api.Text, N: 1, S: "a"})}}, 1, api.ErrShape},
		{"a fault beyond the groups", [][]api.Out{{of(0, one, ranged)}, {of(0, one, full)}}, 1, api.OK},
		{"a fault of no groups", [][]api.Out{{of(0, ranged)}, {of(0, full)}}, 0, api.OK},
		{"the earlier row", [][]api.Out{{of(0, a), of(0, full)}, {of(0, syntax)}}, 1, api.ErrFull},
		{"the earlier row, the other way round", [][]api.Out{{of(0, a), of(0, syntax)}, {of(0, full)}}, 1, api.ErrSyntax},
		{"the earlier row, not the earlier window", [][]api.Out{{of(9, a), of(8, full)}, {of(0, syntax)}}, 1, api.ErrFull},
		{"the earlier value", [][]api.Out{{of(0, one, one)}, {of(0, a, ranged)}}, 2, api.ErrType},
		{"the earlier value, the other way round", [][]api.Out{{of(0, one, one)}, {of(0, ranged, a)}}, 2, api.ErrRange},
		{"the row ahead of the value", [][]api.Out{{of(0, one, one)}, {of(0, one, full), of(0, ranged, one)}}, 2, api.ErrFull},
		{"the first row's second value ahead of another row's first", [][]api.Out{{of(0, one, syntax)}, {of(0, full, one)}}, 2, api.ErrSyntax},
		{"a type ahead of a later fault", [][]api.Out{{of(0, one)}, {of(0, a)}, {of(0, ranged)}}, 1, api.ErrType},
		{"a fault ahead of a later type", [][]api.Out{{of(0, one)}, {of(0, ranged)}, {of(0, a)}}, 1, api.ErrRange},
		{"both of other types than the first", [][]api.Out{{of(0, one)}, {of(0, a), of(0, a)}}, 1, api.ErrType},
	} {
		if c.want != api.OK {
			holdNoJoin(t, c.name, c.l, c.groups, c.want)
		} else if got, how := holdJoin(t, c.l, c.groups); len(got) == 0 || how != api.OK {
			t.Errorf("%s: %v, %v", c.name, got, how)
		}
	}
}

// TestJoinShort is of D2: all short lists of some Outs, in all ways in which they may be cut into parts.
func TestJoinShort(t *testing.T) {
	one, two, a := number(1), number(2), words("a")
	some := []api.Out{of(0, one, a), of(0, one, one), of(0, two, one), of(5, one, two), of(5, a), of(-1, one), of(0, api.Val{Type: 9}, one), fault(0, api.ErrOver), fault(7, api.ErrState), {Row: []api.Val{two, two}, Err: api.ErrFull}}
	met := map[api.Errno]int{}
	var each func(l []api.Out, n int)
	each = func(l []api.Out, n int) {
		for cut := 0; cut <= len(l); cut++ {
			for groups := range 3 {
				_, how := holdJoin(t, [][]api.Out{l[:cut], l[cut:]}, groups)
				met[how]++
			}
		}
		for _, o := range some {
			if n > 0 {
				each(append(slices.Clone(l), o), n-1)
			}
		}
	}
	each(nil, 4)
	for _, how := range []api.Errno{api.OK, api.ErrRange, api.ErrShape, api.ErrType} {
		if met[how] < 1_000 {
			t.Errorf("%v came %d times", how, met[how])
		}
	}
}

// TestJoinByChance is of D2: many Outs, of which a lot are equal in what puts them in order.
func TestJoinByChance(t *testing.T) {
	c := rand.New(rand.NewSource(19))
	types := []int{api.Int, api.Text, api.Bool, api.Int}
	for range 2_000 {
		l := make([][]api.Out, c.Intn(9))
		mark := 0
		for i := range l {
			for range c.Intn(30) {
				mark++
				if c.Intn(5) == 0 {
					l[i] = append(l[i], fault(mark, api.Errno(c.Intn(11))))
					continue
				}
				var row []api.Val
				for _, typ := range types {
					row = append(row, []api.Val{{}, number(c.Intn(3) - 1), truth(c.Intn(2)), words(long(c.Intn(3)))}[typ])
				}
				// The last value tells one from another, where all that is asked of them is the same.
				l[i] = append(l[i], of(c.Intn(3), append(row, number(mark))...))
			}
		}
		groups := c.Intn(5)
		if c.Intn(8) == 0 && len(l) > 0 && len(l[0]) > 0 && len(l[0][0].Row) > 0 {
			l[0][0].Row[c.Intn(4)] = []api.Val{{}, number(1), words(long(41))}[c.Intn(3)]
		}
		holdJoin(t, l, groups)
	}
}

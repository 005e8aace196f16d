package split_test

import (
	"math"
	"math/rand"
	"slices"
	"testing"

	"sluicebook/api"
	"sluicebook/plain"
	"sluicebook/split"
)

// numbered are rows of one number each.
func numbered(l ...int) [][]api.Val {
	var rows [][]api.Val
	for _, n := range l {
		rows = append(rows, []api.Val{number(n)})
	}
	return rows
}

// TestParts is of D1: the numbers of rows, rising, each in the list of its part, of which some are empty.
func TestParts(t *testing.T) {
	for _, c := range []struct {
		name string
		rows [][]api.Val
		cols []int
		n    int
		want [][]int
	}{
		{"no rows, one part", nil, nil, 1, [][]int{nil}},
		{"no rows, three parts", nil, []int{0}, 3, [][]int{nil, nil, nil}},
		{"a row", numbered(5), []int{0}, 3, [][]int{nil, nil, {0}}},
		{"one part", numbered(5, 4, 5, 3), []int{0}, 1, [][]int{{0, 1, 2, 3}}},
		{"each another part", numbered(3, 2, 1, 0), []int{0}, 4, [][]int{{3}, {2}, {1}, {0}}},
		{"some have more", numbered(3, 7, 2, 11, 6, -1), []int{0}, 4, [][]int{nil, nil, {2, 4, 5}, {0, 1, 3}}},
		{"no places", numbered(5, 4, 3), nil, 2, [][]int{{0, 1, 2}, nil}},
		{"eight parts", numbered(7, 15, 8, 0), []int{0}, 8, [][]int{{2, 3}, nil, nil, nil, nil, nil, nil, {0, 1}}},
		{"empty rows at no places", make([][]api.Val, 3), nil, 2, [][]int{{0, 1, 2}, nil}},
		{"rows of many lengths", [][]api.Val{{number(1)}, {number(2), words("a")}, {number(3), {}, {}}}, []int{0}, 2, [][]int{{1}, {0, 2}}},
		{"texts", [][]api.Val{{words("a")}, {words("")}, {words("b")}, {words("a")}}, []int{0}, 8, [][]int{{1}, {0, 3}, {2}, nil, nil, nil, nil, nil}},
		{"a place of two", [][]api.Val{{number(9), number(0)}, {number(9), number(1)}, {number(8), number(0)}}, []int{1}, 2, [][]int{{0, 2}, {1}}},
	} {
		got := holdParts(t, c.rows, c.cols, c.n)
		if !slices.EqualFunc(got, c.want, slices.Equal) {
			t.Errorf("%s: %v, want %v", c.name, got, c.want)
		}
	}
}

// TestPartsEach is of D1: each row stands once, where Part tells, for each number of parts and as many rows as may be.
func TestPartsEach(t *testing.T) {
	c := rand.New(rand.NewSource(18))
	some := someVals()
	for _, count := range []int{0, 1, 2, 7, 60, 299, 300} {
		var rows [][]api.Val
		for range count {
			rows = append(rows, []api.Val{some[c.Intn(len(some))], some[c.Intn(len(some))], number(c.Intn(9))})
		}
		for _, cols := range [][]int{nil, {0}, {1, 0}, {2}, {2, 2, 0}} {
			for n := 1; n <= 8; n++ {
				holdEach(t, rows, cols, n)
			}
		}
	}
}

func holdEach(t *testing.T, rows [][]api.Val, cols []int, n int) {
	t.Helper()
	got := holdParts(t, rows, cols, n)
	if len(got) != n {
		t.Errorf("%d lists of %d", len(got), n)
	}
	times := make([]int, len(rows))
	for p, l := range got {
		if !slices.IsSorted(l) {
			t.Errorf("%v does not rise", l)
		}
		for _, i := range l {
			times[i]++
			if of, err := split.Part(rows[i], cols, n); of != p || err != nil {
				t.Errorf("row %d stands in %d, but Part tells %d, %v", i, p, of, err)
			}
		}
	}
	if slices.ContainsFunc(times, func(n int) bool { return n != 1 }) {
		t.Errorf("of %d rows: %v times", len(rows), times)
	}
}

// TestPartsFull is of D1: 300 rows are not too many, and of 301 nothing else is asked.
func TestPartsFull(t *testing.T) {
	for _, row := range [][]api.Val{nil, {number(3)}} {
		many := slices.Repeat([][]api.Val{row}, 301)
		for _, cols := range [][]int{nil, {0}, {1}, {-1}} {
			for _, n := range []int{math.MinInt, -1, 0, 1, 5, 8, 9, math.MaxInt} {
				holdNoParts(t, many, cols, n, api.ErrFull)
				holdParts(t, many[:300], cols, n)
			}
		}
	}
	got := holdParts(t, slices.Repeat(numbered(3), 300), []int{0}, 5)
	if len(got) != 5 || len(got[3]) != 300 {
		t.Errorf("300 rows: %v", got)
	}
}

func holdNoParts(t *testing.T, rows [][]api.Val, cols []int, n int, want api.Errno) {
	t.Helper()
	if got, err := split.Parts(rows, cols, n); len(got) > 0 || plain.Told(err) != want {
		t.Errorf("Parts of %s: %v, %v, want %v", show(rows, cols, n), got, err, want)
	}
	holdParts(t, rows, cols, n)
}

// TestPartsWrong is of D1: a number of parts that is none, also of no rows, and a place that is none of any one row.
func TestPartsWrong(t *testing.T) {
	for _, n := range []int{math.MinInt, -8, -1, 0, 9, 10, 1<<32 + 1, math.MaxInt} {
		for _, rows := range [][][]api.Val{nil, {}, {nil}, numbered(1), numbered(1, 2, 3)} {
			for _, cols := range [][]int{nil, {0}, {7}} {
				holdNoParts(t, rows, cols, n, api.ErrRange)
			}
		}
	}
	for n := 1; n <= 8; n++ {
		for _, place := range []int{math.MinInt, -1, 1, 2, math.MaxInt} {
			holdNoParts(t, numbered(1, 2, 3), []int{place}, n, api.ErrRange)
			holdNoParts(t, numbered(1, 2, 3), []int{0, place}, n, api.ErrRange)
			// With no rows there is none of which it is no place.
			if got, err := split.Parts(nil, []int{place}, n); len(got) != n || err != nil {
				t.Errorf("no rows: %v, %v", got, err)
			}
		}
		for short := range 5 {
			rows := numbered(4, 5, 6, 7, 8)
			rows[short] = nil
			holdNoParts(t, rows, []int{0}, n, api.ErrRange)
		}
	}
	many := slices.Repeat([][]api.Val{{number(1), number(2)}}, 300)
	many[299] = many[0][:1]
	holdNoParts(t, many, []int{0, 1}, 8, api.ErrRange)
	if got := holdParts(t, many, []int{0}, 8); len(got) != 8 || len(got[1]) != 300 {
		t.Errorf("a short row at another place: %v", got)
	}
}

package split_test

import (
	"math"
	"testing"

	"sluicebook/api"
	"sluicebook/plain"
	"sluicebook/split"
)

// TestPart is of D1: parts that were reckoned by hand.
func TestPart(t *testing.T) {
	for _, c := range []struct {
		name    string
		row     []api.Val
		cols    []int
		n, want int
	}{
		{"no places", []api.Val{number(5)}, nil, 8, 0},
		{"no places of an empty row", nil, nil, 8, 0},
		{"one part", []api.Val{number(5)}, []int{0}, 1, 0},
		{"0", []api.Val{number(0)}, []int{0}, 8, 0},
		{"5 of 8", []api.Val{number(5)}, []int{0}, 8, 5},
		{"5 of 3", []api.Val{number(5)}, []int{0}, 3, 2},
		{"1000002, the greatest number", []api.Val{number(1_000_002)}, []int{0}, 8, 2},
		{"1000003, which is 0", []api.Val{number(1_000_003)}, []int{0}, 8, 0},
		{"1000004, which is 1", []api.Val{number(1_000_004)}, []int{0}, 8, 1},
		{"-1, which is 1000002", []api.Val{number(-1)}, []int{0}, 8, 2},
		{"-3, which is 1000000", []api.Val{number(-3)}, []int{0}, 7, 1},
		{"-1000002, which is 1", []api.Val{number(-1_000_002)}, []int{0}, 8, 1},
		{"-1000003, which is 0", []api.Val{number(-1_000_003)}, []int{0}, 8, 0},
		{"2^63 - 1, which is 675344", []api.Val{number(math.MaxInt)}, []int{0}, 8, 0},
		{"2^63 - 1 of 5", []api.Val{number(math.MaxInt)}, []int{0}, 5, 4},
		{"-2^63, which is 324658", []api.Val{number(math.MinInt)}, []int{0}, 8, 2},
		{"-2^63 of 5", []api.Val{number(math.MinInt)}, []int{0}, 5, 3},
		{"false", []api.Val{truth(0)}, []int{0}, 2, 0},
		{"true", []api.Val{truth(1)}, []int{0}, 2, 1},
		{"a", []api.Val{words("a")}, []int{0}, 8, 97 % 8},
		{"ab", []api.Val{words("ab")}, []int{0}, 8, (31*97 + 98) % 8},
		{"ba", []api.Val{words("ba")}, []int{0}, 8, (31*98 + 97) % 8},
		{"an empty text", []api.Val{words("")}, []int{0}, 8, 0},
		{"a, then an empty text", []api.Val{words("a"), words("")}, []int{0, 1}, 8, 31 * 97 % 8},
		{"an empty text, then a", []api.Val{words(""), words("a")}, []int{0, 1}, 8, 97 % 8},
		{"a byte of 0", []api.Val{words("a\x00")}, []int{0}, 8, 31 * 97 % 8},
		{"a byte of 255", []api.Val{words("\xff")}, []int{0}, 8, 7},
		{"two places", []api.Val{number(2), number(3)}, []int{0, 1}, 8, (31*2 + 3) % 8},
		{"two places, turned", []api.Val{number(2), number(3)}, []int{1, 0}, 8, (31*3 + 2) % 8},
		{"a place twice", []api.Val{number(9), number(2)}, []int{1, 1}, 7, (31*2 + 2) % 7},
		{"four places", []api.Val{number(1), truth(1), words("b"), number(-1)}, []int{3, 0, 1, 2}, 8, (((1_000_002*31+1)*31+1)%1_000_003*31 + 98) % 1_000_003 % 8},
		{"what is over is left off ahead of the parts", []api.Val{number(40_000), number(7)}, []int{0, 1}, 8, (31*40_000 + 7 - 1_000_003) % 8},
		{"of two texts ahead of their sum", []api.Val{words("abcd"), words("efgh")}, []int{0, 1}, 5, (31*(2_987_074-2*1_000_003) + 3_110_210 - 3*1_000_003) % 1_000_003 % 5},
	} {
		got, err := split.Part(c.row, c.cols, c.n)
		if got != c.want || err != nil {
			t.Errorf("%s: %d, %v, want %d", c.name, got, err, c.want)
		}
		holdPart(t, c.row, c.cols, c.n)
	}
}

// TestPartWrong is of D1 and P1: a number of parts, or a place, that is none, wherever it stands, and beside it nothing.
func TestPartWrong(t *testing.T) {
	three := []api.Val{number(5), words("a"), truth(1)}
	far := []int{math.MinInt, -8, -1, 0, 9, 10, 257, 1<<32 + 1, math.MaxInt}
	for _, n := range far {
		for _, cols := range [][]int{nil, {0}, {2, 1}, {3}, {-1}} {
			if got, err := split.Part(three, cols, n); got != 0 || plain.Told(err) != api.ErrRange {
				t.Errorf("%v of %d: %d, %v", cols, n, got, err)
			}
		}
	}
	for _, place := range []int{math.MinInt, -3, -1, 3, 4, 1 << 32, math.MaxInt} {
		for _, cols := range [][]int{{place}, {place, 0}, {0, place}, {0, 1, 2, place, 2, 1}, {place, place}, {place, math.MaxInt}} {
			for n := 1; n <= 8; n++ {
				if got, err := split.Part(three, cols, n); got != 0 || plain.Told(err) != api.ErrRange {
					t.Errorf("%v of %d: %d, %v", cols, n, got, err)
				}
			}
		}
	}
	for _, row := range [][]api.Val{nil, {}, three[:0]} {
		if got, err := split.Part(row, []int{0}, 8); got != 0 || plain.Told(err) != api.ErrRange {
			t.Errorf("a place of an empty row: %d, %v", got, err)
		}
	}
	if got, err := split.Part(three[:2], []int{2}, 8); got != 0 || plain.Told(err) != api.ErrRange {
		t.Errorf("what lies behind the row: %d, %v", got, err)
	}
}

// edges are numbers at which reckoning may go over, and some ordinary ones.
func edges() []int {
	return []int{math.MinInt, math.MinInt + 1, -1 << 32, -2_000_006, -1_000_004, -1_000_003, -1_000_002, -1_000_001, -500_000, -32, -31, -2, -1,
		0, 1, 2, 30, 31, 32, 97, 32_258, 32_259, 500_000, 1_000_001, 1_000_002, 1_000_003, 1_000_004, 2_000_006, 1 << 32, math.MaxInt - 1, math.MaxInt}
}

// someVals are values with all numbers at edges, of each type and of none, and texts of all lengths to 45, and longer ones.
func someVals() []api.Val {
	var l []api.Val
	for _, n := range edges() {
		for typ := -1; typ < 5; typ++ {
			l = append(l, api.Val{Type: typ, N: n})
		}
	}
	for n := range 46 {
		l = append(l, words(long(n)), words("it's"+long(n)), words(long(n)+"\x00"), words("\xff\x80"+long(n)))
	}
	return append(l, words(long(200)), words(long(1_001)))
}

// TestPartEdges is of D1: any value, alone, ahead of and behind another one, held against sums of numbers of any size.
func TestPartEdges(t *testing.T) {
	some := someVals()
	met := map[int]int{}
	for i, v := range some {
		for n := 1; n <= 8; n++ {
			met[holdPart(t, []api.Val{v}, []int{0}, n)]++
			holdPart(t, []api.Val{v, v}, []int{1, 0, 0}, n)
		}
		for _, w := range append(some[:30:30], some[(i*7)%len(some)]) {
			holdPart(t, []api.Val{v, w}, []int{0, 1}, 8)
			holdPart(t, []api.Val{v, w}, []int{1, 0, 1, 1}, 7)
		}
	}
	if len(met) != 8 {
		t.Errorf("parts: %v", met)
	}
}

// TestPartManyPlaces is of D1: places that stand far more often than a row has values.
func TestPartManyPlaces(t *testing.T) {
	row := []api.Val{number(math.MaxInt), words("it's"), truth(1), number(math.MinInt), {Type: 7, N: -8}}
	var cols []int
	for i := range 1_000 {
		cols = append(cols, i*i%5)
		holdPart(t, row, cols, 1+i%8)
	}
}

// TestPartBeside is of D1: what a value is beside its number changes nothing, and what stands at no place neither.
func TestPartBeside(t *testing.T) {
	for _, v := range someVals()[:100] {
		beside := v
		if v.Type == api.Text {
			beside.N += 12_345
		} else {
			beside.S = "beside"
		}
		other := v
		if v.Type != api.Text {
			other.Type = []int{1, 2, 0, 4, -1, math.MaxInt}[v.N&3]
		}
		for n := 1; n <= 8; n++ {
			want := holdPart(t, []api.Val{v, number(3)}, []int{0, 1}, n)
			for _, w := range []api.Val{beside, other} {
				for _, row := range [][]api.Val{{w, number(3)}, {w, number(3), words("behind")}} {
					if got, err := split.Part(row, []int{0, 1}, n); got != want || err != nil {
						t.Errorf("%v of %d: %d, %v, but %v: %d", row, n, got, err, v, want)
					}
				}
			}
		}
	}
	for _, w := range []api.Val{{Type: 3, N: 77}, {Type: 3, N: math.MinInt}} {
		if got, err := split.Part([]api.Val{w}, []int{0}, 8); got != 0 || err != nil {
			t.Errorf("%v: %d, %v", w, got, err)
		}
	}
}

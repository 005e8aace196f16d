package window_test

import (
	"math"
	"math/rand"
	"slices"
	"testing"

	"sluicebook/api"
	"sluicebook/plain"
	"sluicebook/window"
)

// most is the last time up to which windows may be asked for.
const most = api.MaxTime + api.MaxSpan

// pair of a size and a slide.
type pair struct{ size, slide int }

// right tells of a pair what W1 does, word by word.
func right(p pair) bool {
	if p.size < 1 || p.size > 1000 {
		return false
	}
	return p.slide >= 1 && p.slide <= p.size && p.size <= 10*p.slide
}

// counted goes over all windows from 0 on, up to a time, one by one, and gives where those begin that are asked for: no more than tell that they are too many.
func counted(p pair, to int, asked func(begin, end int) bool) []int {
	var l []int
	for begin := 0; begin <= to && len(l) <= 300; begin += p.slide {
		if asked(begin, begin+p.size) {
			l = append(l, begin)
		}
	}
	return l
}

// holding gives where windows begin that hold a time.
func holding(at int, p pair) ([]int, api.Errno) {
	if !right(p) || at < 0 || at > 1_000_000 {
		return nil, api.ErrRange
	}
	return counted(p, at, func(begin, end int) bool { return begin <= at && at < end }), api.OK
}

// ending gives where windows begin that end above from, and at most at to.
func ending(from, to int, p pair) ([]int, api.Errno) {
	if !right(p) || from < -1 || from > 1_000_000 || to < from || to > 1_001_000 {
		return nil, api.ErrRange
	}
	l := counted(p, to, func(_, end int) bool { return from < end && end <= to })
	if len(l) > 300 {
		return nil, api.ErrFull
	}
	return l, api.OK
}

// same fails where a list, or an error, is another one than is wanted. It is of P1 too: with an error the wanted list is empty.
func same(t *testing.T, got []int, err error, want []int, how api.Errno) {
	t.Helper()
	if plain.Told(err) != how || !slices.Equal(got, want) {
		t.Errorf("got %v, %v; want %v, %v", got, err, want, how)
	}
}

// holdStarts holds Starts against counting.
func holdStarts(t *testing.T, at int, p pair) {
	t.Helper()
	got, err := window.Starts(at, p.size, p.slide)
	want, how := holding(at, p)
	if plain.Told(err) != how || !slices.Equal(got, want) {
		t.Errorf("Starts at %d of %v: got %v, %v; want %v, %v", at, p, got, err, want, how)
	}
}

// holdDone holds Done against counting.
func holdDone(t *testing.T, from, to int, p pair) {
	t.Helper()
	got, err := window.Done(from, to, p.size, p.slide)
	want, how := ending(from, to, p)
	if plain.Told(err) != how || !slices.Equal(got, want) {
		t.Errorf("Done from %d to %d of %v: got %v, %v; want %v, %v", from, to, p, got, err, want, how)
	}
}

// rightPairs are all that may be, of sizes up to one.
func rightPairs(size int) []pair {
	var l []pair
	for s := 1; s <= size; s++ {
		for k := 1; k <= s; k++ {
			if p := (pair{s, k}); right(p) {
				l = append(l, p)
			}
		}
	}
	return l
}

// edgePairs are right, at the edges of what may be, and between.
func edgePairs() []pair {
	return []pair{
		{1, 1}, {2, 1}, {3, 2}, {7, 7}, {9, 1}, {10, 1}, {11, 2}, {20, 2}, {24, 7}, {100, 10}, {101, 11},
		{500, 50}, {999, 100}, {999, 999}, {1000, 100}, {1000, 101}, {1000, 333}, {1000, 500}, {1000, 999}, {1000, 1000},
	}
}

// wrongPairs are one beyond an edge, or far beyond.
func wrongPairs() []pair {
	return []pair{
		{0, 0}, {0, 1}, {1, 0}, {1000, 0}, {5, -1}, {-1, 1}, {1, -1}, {-1, -1}, {-5, -5}, {-10, -1},
		{1, 2}, {7, 8}, {999, 1000}, {1000, 1001},
		{11, 1}, {21, 2}, {31, 3}, {991, 99}, {1000, 99}, {1000, 1},
		{1001, 101}, {1001, 500}, {1001, 1000}, {1001, 1001}, {1_000_000, 1_000_000},
		{math.MaxInt, math.MaxInt}, {math.MaxInt, math.MaxInt/10 + 1}, {math.MaxInt, 1}, {1, math.MaxInt}, {1000, math.MaxInt},
		{1000, math.MaxInt/10 + 1}, {math.MinInt, math.MinInt}, {math.MinInt, 1}, {1, math.MinInt}, {1000, math.MinInt},
		{math.MaxInt, math.MinInt}, {math.MinInt, math.MaxInt}, {1000, math.MinInt/10 - 1}, {1 << 32, 1 << 32}, {1<<32 + 10, 1<<32 + 1},
	}
}

// TestNumbers: what the chapter writes out stands by its name in api.
func TestNumbers(t *testing.T) {
	if api.MaxSpan != 1000 || api.MaxTime != 1_000_000 || api.MaxRows != 300 {
		t.Error("another number")
	}
}

// TestCheckEdges: W1, each edge of sizes and slides, and one beyond.
func TestCheckEdges(t *testing.T) {
	for _, p := range edgePairs() {
		if err := window.Check(p.size, p.slide); err != nil {
			t.Errorf("%v: %v", p, err)
		}
	}
	for _, p := range wrongPairs() {
		if err := window.Check(p.size, p.slide); plain.Told(err) != api.ErrRange {
			t.Errorf("%v: %v", p, err)
		}
	}
}

// TestCheckAll: W1, all sizes and slides from below what may be to above it.
func TestCheckAll(t *testing.T) {
	for size := -12; size <= 1012; size++ {
		for slide := -12; slide <= 1012; slide++ {
			want := api.ErrRange
			if right(pair{size, slide}) {
				want = api.OK
			}
			if err := window.Check(size, slide); plain.Told(err) != want {
				t.Fatalf("of %d, %d: %v, want %v", size, slide, err, want)
			}
		}
	}
}

// TestStartsWritten: W1, what stands in the chapter's words, reckoned by hand.
func TestStartsWritten(t *testing.T) {
	cases := []struct {
		at, size, slide int
		want            []int
	}{
		{0, 1, 1, []int{0}},
		{0, 10, 1, []int{0}},
		{1, 10, 1, []int{0, 1}},
		{8, 10, 1, []int{0, 1, 2, 3, 4, 5, 6, 7, 8}},
		{9, 10, 1, []int{0, 1, 2, 3, 4, 5, 6, 7, 8, 9}},
		{10, 10, 1, []int{1, 2, 3, 4, 5, 6, 7, 8, 9, 10}},
		{4, 5, 5, []int{0}},
		{5, 5, 5, []int{5}},
		{6, 5, 5, []int{5}},
		{3, 10, 4, []int{0}},
		{4, 10, 4, []int{0, 4}},
		{7, 10, 4, []int{0, 4}},
		{8, 10, 4, []int{0, 4, 8}},
		{9, 10, 4, []int{0, 4, 8}},
		{10, 10, 4, []int{4, 8}},
		{12, 10, 4, []int{4, 8, 12}},
		{14, 10, 4, []int{8, 12}},
		{999, 1000, 999, []int{0, 999}},
		{1000, 1000, 999, []int{999}},
		{1_000_000, 1, 1, []int{1_000_000}},
		{1_000_000, 1000, 1000, []int{1_000_000}},
		{999_999, 1000, 1000, []int{999_000}},
		{1_000_000, 1000, 500, []int{999_500, 1_000_000}},
		{1_000_000, 7, 3, []int{999_996, 999_999}},
		{999_999, 7, 3, []int{999_993, 999_996, 999_999}},
	}
	for _, c := range cases {
		got, err := window.Starts(c.at, c.size, c.slide)
		same(t, got, err, c.want, api.OK)
	}
}

// TestStartsCounted: W1, held against counting, at the beginning, at multiples of the slide and beside them, and at MaxTime.
func TestStartsCounted(t *testing.T) {
	for _, p := range rightPairs(24) {
		for at := -2; at <= 80; at++ {
			holdStarts(t, at, p)
		}
	}
	for _, p := range edgePairs() {
		for at := -2; at <= 2100; at++ {
			holdStarts(t, at, p)
		}
		last := api.MaxTime / p.slide * p.slide
		for _, at := range []int{last - p.slide, last, api.MaxTime, last + p.size} {
			for beside := -1; beside <= 1; beside++ {
				holdStarts(t, at+beside, p)
			}
		}
	}
}

// TestStartsRange: W1, times beyond 0 and MaxTime, and wrong sizes and slides.
func TestStartsRange(t *testing.T) {
	for _, p := range edgePairs() {
		for _, at := range []int{-1, -2, -p.slide, -p.size, math.MinInt, math.MinInt + 1, 1_000_001, 1_001_000, 1 << 32, math.MaxInt - 1, math.MaxInt} {
			got, err := window.Starts(at, p.size, p.slide)
			same(t, got, err, nil, api.ErrRange)
		}
	}
	for _, p := range wrongPairs() {
		for _, at := range []int{-1, 0, 1, 1000, 1_000_000, 1_000_001, math.MinInt, math.MaxInt} {
			got, err := window.Starts(at, p.size, p.slide)
			same(t, got, err, nil, api.ErrRange)
		}
	}
}

// TestDoneWritten: W1, what stands in the chapter's words, reckoned by hand.
func TestDoneWritten(t *testing.T) {
	cases := []struct {
		from, to, size, slide int
		want                  []int
	}{
		{-1, -1, 1, 1, nil},
		{-1, 0, 1, 1, nil},
		{-1, 1, 1, 1, []int{0}},
		{0, 1, 1, 1, []int{0}},
		{1, 1, 1, 1, nil},
		{1, 2, 1, 1, []int{1}},
		{-1, 9, 10, 1, nil},
		{-1, 10, 10, 1, []int{0}},
		{9, 10, 10, 1, []int{0}},
		{10, 10, 10, 1, nil},
		{10, 12, 10, 1, []int{1, 2}},
		{9, 18, 10, 4, []int{0, 4, 8}},
		{10, 18, 10, 4, []int{4, 8}},
		{10, 17, 10, 4, []int{4}},
		{13, 17, 10, 4, []int{4}},
		{14, 17, 10, 4, nil},
		{0, 999, 1000, 100, nil},
		{0, 1000, 1000, 100, []int{0}},
		{0, 1100, 1000, 100, []int{0, 100}},
		{1_000_000, 1_001_000, 1000, 1000, []int{1_000_000}},
		{999_999, 1_001_000, 1000, 1000, []int{999_000, 1_000_000}},
		{1_000_000, 1_000_000, 1, 1, nil},
		{1_000_000, 1_000_001, 1, 1, []int{1_000_000}},
		{1_000_000, 1_001_000, 400, 400, []int{1_000_000, 1_000_400}},
	}
	for _, c := range cases {
		got, err := window.Done(c.from, c.to, c.size, c.slide)
		same(t, got, err, c.want, api.OK)
	}
}

// TestDoneCounted: W1, held against counting.
func TestDoneCounted(t *testing.T) {
	for _, p := range rightPairs(20) {
		for from := -2; from <= 45; from++ {
			for to := from - 1; to <= 60; to++ {
				holdDone(t, from, to, p)
			}
		}
	}
	for _, p := range edgePairs() {
		for _, from := range []int{-1, 0, p.slide, p.size - 1, p.size, p.size + p.slide, 3 * p.size, api.MaxTime - p.size, api.MaxTime} {
			for _, more := range []int{0, 1, p.slide, p.size, p.size + p.slide, 3 * p.size, 300 * p.slide} {
				for beside := -1; beside <= 1; beside++ {
					holdDone(t, from, from+more+beside, p)
				}
			}
		}
	}
}

// TestDoneByChance: W1, held against counting at any times, and right and wrong numbers.
func TestDoneByChance(t *testing.T) {
	chance := rand.New(rand.NewSource(11))
	for range 3000 {
		p := pair{1 + chance.Intn(1010), 0}
		p.slide = max(p.size/(1+chance.Intn(11)), 1) + chance.Intn(3) - 1
		from := chance.Intn(1_000_100) - 2
		holdDone(t, from, from+chance.Intn(400*max(p.slide, 1))-2, p)
		holdStarts(t, from, p)
	}
}

// TestDoneRange: W1, each edge of from and to, and one beyond.
func TestDoneRange(t *testing.T) {
	cases := []struct {
		from, to int
		how      api.Errno
	}{
		{-1, -1, api.OK}, {-2, -1, api.ErrRange}, {-2, -2, api.ErrRange}, {-1, -2, api.ErrRange}, {-2, 0, api.ErrRange},
		{0, 0, api.OK}, {0, -1, api.ErrRange}, {7, 7, api.OK}, {7, 6, api.ErrRange}, {7, 0, api.ErrRange},
		{1_000_000, 1_000_000, api.OK}, {1_000_000, 999_999, api.ErrRange},
		{1_000_000, 1_001_000, api.OK}, {1_000_000, 1_001_001, api.ErrRange},
		{1_000_001, 1_000_001, api.ErrRange}, {1_000_001, 1_001_000, api.ErrRange}, {1_001_000, 1_001_000, api.ErrRange},
		{math.MinInt, math.MinInt, api.ErrRange}, {math.MinInt, 0, api.ErrRange}, {math.MinInt, math.MaxInt, api.ErrRange},
		{math.MaxInt, math.MaxInt, api.ErrRange}, {0, math.MaxInt, api.ErrRange}, {0, math.MinInt, api.ErrRange},
		{math.MaxInt, math.MinInt, api.ErrRange}, {1 << 32, 1 << 32, api.ErrRange}, {0, 1 << 32, api.ErrRange},
	}
	for _, c := range cases {
		for _, p := range []pair{{4, 4}, {10, 5}, {1000, 100}, {1000, 1000}} {
			l, err := window.Done(c.from, c.to, p.size, p.slide)
			if plain.Told(err) != c.how || err != nil && len(l) > 0 {
				t.Errorf("from %d to %d of %v: %v, %v; want %v", c.from, c.to, p, l, err, c.how)
			}
		}
		for _, p := range wrongPairs() {
			l, err := window.Done(c.from, c.to, p.size, p.slide)
			same(t, l, err, nil, api.ErrRange)
		}
	}
}

// TestDoneFull: W1, just as many as MaxRows, and one more; ErrRange is told ahead of ErrFull.
func TestDoneFull(t *testing.T) {
	for _, p := range append(rightPairs(150), edgePairs()...) {
		for _, begin := range []int{0, 3 * p.slide} {
			end := begin + p.size
			to := end + 299*p.slide
			if l, err := window.Done(end-1, to, p.size, p.slide); err != nil || len(l) != 300 || l[0] != begin || l[299] != to-p.size {
				t.Fatalf("of %v, just as many: %d, %v", p, len(l), err)
			}
			if l, err := window.Done(end-1, to+p.slide-1, p.size, p.slide); err != nil || len(l) != 300 {
				t.Fatalf("of %v, ahead of one more: %d, %v", p, len(l), err)
			}
			if l, err := window.Done(end-1, to+p.slide, p.size, p.slide); plain.Told(err) != api.ErrFull || len(l) != 0 {
				t.Fatalf("of %v, one more: %d, %v", p, len(l), err)
			}
			if l, err := window.Done(end, to+p.slide, p.size, p.slide); err != nil || len(l) != 300 {
				t.Fatalf("of %v, further on: %d, %v", p, len(l), err)
			}
		}
	}
	for _, c := range []struct {
		from, to int
		how      api.Errno
	}{
		{-1, 300, api.OK}, {-1, 301, api.ErrFull}, {-1, 1_001_000, api.ErrFull}, {-1, 1_001_001, api.ErrRange}, {-2, 301, api.ErrRange},
		{1_000_000, 1_000_300, api.OK}, {1_000_000, 1_000_301, api.ErrFull}, {1_000_000, 1_001_000, api.ErrFull}, {1_000_001, 1_001_000, api.ErrRange},
	} {
		if l, err := window.Done(c.from, c.to, 1, 1); plain.Told(err) != c.how || err == nil && len(l) != 300 || err != nil && len(l) > 0 {
			t.Errorf("from %d to %d: %d, %v; want %v", c.from, c.to, len(l), err, c.how)
		}
	}
}

// timesFrom gives times that go on from one, by less than far each, up to MaxTime at the most.
func timesFrom(chance *rand.Rand, at, far int) []int {
	var l []int
	for len(l) < 40 && at <= api.MaxTime {
		l = append(l, at)
		at += chance.Intn(far)
	}
	return l
}

// goOn asks Done from each time to the next one, and in the end for what held the last one; it gives all that is told.
func goOn(t *testing.T, times []int, p pair) []int {
	t.Helper()
	var l []int
	from := times[0] - 1
	for _, to := range append(slices.Clone(times), times[len(times)-1]+p.size) {
		part, err := window.Done(from, to, p.size, p.slide)
		if err != nil {
			t.Fatalf("from %d to %d of %v: %v", from, to, p, err)
		}
		l = append(l, part...)
		from = to
	}
	return l
}

// TestOnce: W1, each window that holds a time is told by Done just once, as times go on.
func TestOnce(t *testing.T) {
	chance := rand.New(rand.NewSource(7))
	for _, p := range append(rightPairs(30), edgePairs()...) {
		for _, far := range []int{2, p.slide + 1, p.size + 2, 100 * p.slide} {
			for _, begin := range []int{0, chance.Intn(2 * p.size), 999_000, api.MaxTime - 1, api.MaxTime} {
				times := timesFrom(chance, begin, far)
				l := goOn(t, times, p)
				if !slices.IsSorted(l) || len(slices.Compact(slices.Clone(l))) != len(l) {
					t.Errorf("of %v at %v: not each once, rising: %v", p, times, l)
				}
				for _, at := range times {
					holds(t, l, at, p)
				}
			}
		}
	}
}

// holds fails where a window that holds a time is not in a list.
func holds(t *testing.T, l []int, at int, p pair) {
	t.Helper()
	held, err := window.Starts(at, p.size, p.slide)
	if err != nil || len(held) == 0 {
		t.Errorf("at %d of %v: %v, %v", at, p, held, err)
	}
	for _, begin := range held {
		if !slices.Contains(l, begin) {
			t.Errorf("at %d of %v: %d is not in %v", at, p, begin, l)
		}
	}
}

// TestTogether: W1, what is done up to a time and what holds it are apart, and nothing is between.
func TestTogether(t *testing.T) {
	for _, p := range edgePairs() {
		for _, at := range []int{0, 1, p.slide, p.size, 2*p.size + 1, 999_000, api.MaxTime} {
			now, err := window.Starts(at, p.size, p.slide)
			if err != nil || len(now) == 0 || len(now) > 10 {
				t.Fatalf("at %d of %v: %v, %v", at, p, now, err)
			}
			ahead, err := window.Done(max(at-p.slide, -1), at, p.size, p.slide)
			if err != nil {
				t.Fatalf("at %d of %v: %v", at, p, err)
			}
			if len(ahead) > 1 || len(ahead) == 1 && ahead[0]+p.slide != now[0] || len(ahead) == 0 && now[0] != 0 {
				t.Errorf("at %d of %v: done %v, held %v", at, p, ahead, now)
			}
		}
	}
}

// ends are numbers at all edges, and far beyond them.
func ends() []int {
	return []int{
		math.MinInt, math.MinInt + 1, math.MinInt/10 - 1, -1 << 32, -1_000_001, -1001, -1000, -11, -10, -2, -1,
		0, 1, 2, 9, 10, 11, 100, 299, 300, 301, 999, 1000, 1001, 999_999, 1_000_000, 1_000_001,
		most - 1, most, most + 1, 1 << 32, math.MaxInt/10 + 1, math.MaxInt - 1000, math.MaxInt - 1, math.MaxInt,
	}
}

// TestAnyNumbers: P1, no call panics, and each ends with what counting tells, or an error and nothing beside it.
func TestAnyNumbers(t *testing.T) {
	for _, size := range ends() {
		for _, slide := range ends() {
			p := pair{size, slide}
			if err := window.Check(size, slide); (err == nil) != right(p) || err != nil && plain.Told(err) != api.ErrRange {
				t.Errorf("of %v: %v", p, err)
			}
			for _, from := range ends() {
				holdStarts(t, from, p)
				for _, to := range ends() {
					holdDone(t, from, to, p)
				}
			}
		}
	}
}

// TestFresh: P2, what comes out is the caller's, and what a call answers hangs on its arguments alone.
func TestFresh(t *testing.T) {
	ask := []func() ([]int, error){
		func() ([]int, error) { return window.Starts(9, 10, 1) },
		func() ([]int, error) { return window.Done(-1, 19, 10, 1) },
	}
	want := []int{0, 1, 2, 3, 4, 5, 6, 7, 8, 9}
	for _, f := range ask {
		first, err := f()
		same(t, first, err, want, api.OK)
		whole := first[:cap(first)]
		for k := range whole {
			whole[k] = -7
		}
		for _, g := range ask {
			l, err := g()
			same(t, l, err, want, api.OK)
		}
		for _, n := range first {
			if n != -7 {
				t.Error("written into by a later call")
			}
		}
	}
}

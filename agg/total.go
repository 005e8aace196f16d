package agg

import (
	"math"
	"math/bits"

	"sluicebook/api"
)

// total is a sum that goes as far as it will: words of 64 bits, the lowest first, as two's complement has them, and no more than it takes. Without any it is 0.
type total []uint64

// plus has room for one word more than either, so that nothing is lost.
func (t total) plus(o total) total {
	sum := make(total, max(len(t), len(o))+1)
	var carry uint64
	for i := range sum {
		sum[i], carry = bits.Add64(t.word(i), o.word(i), carry)
	}
	return sum.short()
}

// word is the one at a place, however far on.
func (t total) word(i int) uint64 {
	if i < len(t) {
		return t[i]
	}
	return t.beyond()
}

// beyond is each word behind the last one: all bits are as its topmost.
func (t total) beyond() uint64 {
	if len(t) > 0 && t[len(t)-1] > math.MaxInt64 {
		return math.MaxUint64
	}
	return 0
}

// short leaves out the last words that are so without being there.
func (t total) short() total {
	for last := len(t) - 1; last > 0 && t[last] == t[:last].beyond(); last-- {
		t = t[:last]
	}
	return t
}

func (t total) number() (int, error) {
	if len(t) > 1 {
		return 0, api.ErrOver
	}
	return int(t.word(0)), nil
}

package split_test

import (
	"fmt"
	"math/big"
	"slices"
	"strings"
	"testing"

	"sluicebook/api"
	"sluicebook/plain"
	"sluicebook/split"
)

func number(n int) api.Val { return api.Val{Type: api.Int, N: n} }

func truth(n int) api.Val { return api.Val{Type: api.Bool, N: n} }

func words(s string) api.Val { return api.Val{Type: api.Text, S: s} }

// long is a text of so many bytes.
func long(n int) string { return strings.Repeat("z", n) }

// show tells what was handed in, but no more than can be read.
func show(l ...any) string { return fmt.Sprintf("%.2000s", fmt.Sprintf("%+v", l)) }

// modelPart tells what Part is to tell, by numbers of any size: all is summed up first, and what is left of it taken at last.
func modelPart(row []api.Val, cols []int, n int) (int, api.Errno) {
	if n < 1 || n > 8 {
		return 0, api.ErrRange
	}
	var numbers []*big.Int
	for _, place := range cols {
		if place < 0 || place > len(row)-1 {
			return 0, api.ErrRange
		}
		numbers = append(numbers, modelNumber(row[place]))
	}
	return int(summed(numbers).Int64()) % n, api.OK
}

func modelNumber(v api.Val) *big.Int {
	if v.Type != 3 {
		return new(big.Int).Mod(big.NewInt(int64(v.N)), big.NewInt(1_000_003))
	}
	var bytes []*big.Int
	for _, b := range []byte(v.S) {
		bytes = append(bytes, big.NewInt(int64(b)))
	}
	return summed(bytes)
}

// summed is each number as many times as 31 is to be taken of it by those behind it, modulo 1000003.
func summed(l []*big.Int) *big.Int {
	all, bound := new(big.Int), big.NewInt(1_000_003)
	for i, x := range l {
		times := new(big.Int).Exp(big.NewInt(31), big.NewInt(int64(len(l)-1-i)), bound)
		all.Add(all, times.Mul(times, x))
	}
	return all.Mod(all, bound)
}

// holdPart holds what Part tells against the model.
func holdPart(t *testing.T, row []api.Val, cols []int, n int) int {
	t.Helper()
	got, err := split.Part(row, cols, n)
	want, how := modelPart(row, cols, n)
	if got != want || plain.Told(err) != how {
		t.Errorf("Part of %s: %d, %v, want %d, %v", show(row, cols, n), got, err, want, how)
	}
	return got
}

// modelParts tells what Parts is to tell: of each part it goes over all rows.
func modelParts(rows [][]api.Val, cols []int, n int) ([][]int, api.Errno) {
	if len(rows) > 300 {
		return nil, api.ErrFull
	}
	if n < 1 || n > 8 {
		return nil, api.ErrRange
	}
	for _, row := range rows {
		if _, how := modelPart(row, cols, n); how != api.OK {
			return nil, how
		}
	}
	parts := make([][]int, n)
	for p := range parts {
		for i, row := range rows {
			if of, _ := modelPart(row, cols, n); of == p {
				parts[p] = append(parts[p], i)
			}
		}
	}
	return parts, api.OK
}

// holdParts holds what Parts tells against the model.
func holdParts(t *testing.T, rows [][]api.Val, cols []int, n int) [][]int {
	t.Helper()
	got, err := split.Parts(rows, cols, n)
	want, how := modelParts(rows, cols, n)
	if !slices.EqualFunc(got, want, slices.Equal) || plain.Told(err) != how {
		t.Errorf("Parts of %s: %v, %v, want %v, %v", show(rows, cols, n), got, err, want, how)
	}
	return got
}

// modelJoin tells what Join is to tell: again and again it looks for the first one ahead of which no other is to stand.
func modelJoin(l [][]api.Out, groups int) ([]api.Out, api.Errno) {
	if groups < 0 || groups > 6 {
		return nil, api.ErrRange
	}
	var rows, others []api.Out
	for _, o := range slices.Concat(l...) {
		if len(o.Row) == 0 {
			others = append(others, o)
		} else {
			rows = append(rows, o)
		}
	}
	if how := modelFault(rows, groups); how != api.OK {
		return nil, how
	}
	var all []api.Out
	for len(rows) > 0 {
		first := 0
		for i := range rows {
			if isAhead(rows[i], rows[first], groups) {
				first = i
			}
		}
		all = append(all, rows[first])
		rows = slices.Delete(rows, first, first+1)
	}
	return append(all, others...), api.OK
}

func modelFault(rows []api.Out, groups int) api.Errno {
	for _, o := range rows {
		if len(o.Row) < groups {
			return api.ErrShape
		}
	}
	for _, o := range rows {
		for i, v := range o.Row[:groups] {
			for _, of := range []api.Val{v, rows[0].Row[i]} {
				if how := modelCheck(of); how != api.OK {
					return how
				}
			}
			if v.Type != rows[0].Row[i].Type {
				return api.ErrType
			}
		}
	}
	return api.OK
}

// modelCheck is what chapter 1 says of a value.
func modelCheck(v api.Val) api.Errno {
	switch {
	case v.Type < 1 || v.Type > 3 || v.Type == 2 && v.N != 0 && v.N != 1:
		return api.ErrRange
	case v.Type == 3 && len(v.S) > 40:
		return api.ErrFull
	case v.Type == 3 && strings.ContainsFunc(v.S, func(r rune) bool { return r < 32 || r > 126 }):
		return api.ErrSyntax
	case v.Type == 3 && v.N != 0 || v.Type != 3 && v.S != "":
		return api.ErrShape
	}
	return api.OK
}

// isAhead tells whether one is to stand ahead of another one, wherever both stood.
func isAhead(a, b api.Out, groups int) bool {
	if a.From != b.From {
		return a.From < b.From
	}
	for i := range groups {
		v, w := a.Row[i], b.Row[i]
		if v.N != w.N || v.S != w.S {
			return v.N < w.N || v.N == w.N && v.S < w.S
		}
	}
	return false
}

// holdJoin holds what Join tells against the model.
func holdJoin(t *testing.T, l [][]api.Out, groups int) ([]api.Out, api.Errno) {
	t.Helper()
	got, err := split.Join(l, groups)
	want, how := modelJoin(l, groups)
	if !slices.EqualFunc(got, want, sameOuts) || plain.Told(err) != how {
		t.Errorf("Join of %s:\ngot  %v, %v\nwant %v, %v", show(l, groups), got, err, want, how)
	}
	return got, how
}

func sameOuts(a, b api.Out) bool {
	return a.Err == b.Err && a.From == b.From && slices.Equal(a.Row, b.Row)
}

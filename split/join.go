package split

import (
	"cmp"
	"slices"

	"sluicebook/api"
	"sluicebook/val"
)

// Join puts together what parts of one query tell, of which a row begins with so many columns of its group.
func Join(l [][]api.Out, groups int) ([]api.Out, error) {
	if groups < 0 || groups > api.MaxCols {
		return nil, api.ErrRange
	}
	rows := gather(l, func(o api.Out) bool { return len(o.Row) > 0 })
	if err := checkRows(rows, groups); err != nil {
		return nil, err
	}
	// They were gathered part by part, and so stay where nothing else tells which is ahead.
	slices.SortStableFunc(rows, func(a, b api.Out) int {
		if side := cmp.Compare(a.From, b.From); side != 0 {
			return side
		}
		return compareGroups(a.Row[:groups], b.Row[:groups])
	})
	others := gather(l, func(o api.Out) bool { return len(o.Row) == 0 })
	return append(rows, others...), nil
}

// gather takes those that are wanted, part by part, in memory of their own.
func gather(l [][]api.Out, wanted func(o api.Out) bool) []api.Out {
	var some []api.Out
	for _, part := range l {
		for _, o := range part {
			if wanted(o) {
				some = append(some, api.Out{Row: val.FreshAll(o.Row), Err: o.Err, From: o.From})
			}
		}
	}
	return some
}

// checkRows tells what keeps rows from being held against each other by their first values.
func checkRows(rows []api.Out, groups int) error {
	if slices.ContainsFunc(rows, func(o api.Out) bool { return len(o.Row) < groups }) {
		return api.ErrShape
	}
	for _, o := range rows {
		for i := range groups {
			// The first row is held against itself, too: so its values are asked as all others are.
			if _, err := val.Compare(o.Row[i], rows[0].Row[i]); err != nil {
				return err
			}
		}
	}
	return nil
}

// compareGroups tells which of two groups is ahead, whose values were checked, so that no Compare has an error.
func compareGroups(a, b []api.Val) int {
	for i := range a {
		if side, _ := val.Compare(a[i], b[i]); side != 0 {
			return side
		}
	}
	return 0
}

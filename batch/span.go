package batch

import (
	"slices"

	"sluicebook/agg"
	"sluicebook/api"
	"sluicebook/val"
)

// span is a window that has rows: where it begins, and its groups, by their values.
type span struct {
	from   int
	groups []*group
}

// group of rows that have the same values in the group's columns.
type group struct {
	key []api.Val
	acc *agg.Acc
}

// compareKeys tells which group is ahead.
func compareKeys(a, b []api.Val) int {
	return slices.CompareFunc(a, b, func(a, b api.Val) int {
		side, _ := val.Compare(a, b) // the rows were checked, so both are of their column's type
		return side
	})
}

// find is where the group of such values stands, or would stand; false: there is none as yet.
func (s *span) find(key []api.Val) (int, bool) {
	return slices.BinarySearchFunc(s.groups, key, func(g *group, key []api.Val) int { return compareKeys(g.key, key) })
}

// hasRoom tells whether a row of that group may come.
func (s *span) hasRoom(key []api.Val) bool {
	_, ok := s.find(key)
	return ok || len(s.groups) < api.MaxGroups
}

// groupOf gives that of such values; if there is none as yet, one without rows is laid there.
func (s *span) groupOf(key []api.Val, aggs []api.Agg, types []int) (*group, error) {
	i, ok := s.find(key)
	if !ok {
		acc, err := agg.New(aggs, types)
		if err != nil {
			return nil, err
		}
		s.groups = slices.Insert(s.groups, i, &group{key: val.FreshAll(key), acc: acc})
	}
	return s.groups[i], nil
}

// outsOf tells of windows, one by one.
func outsOf(l []*span) []api.Out {
	var outs []api.Out
	for _, s := range l {
		outs = append(outs, s.outs()...)
	}
	return outs
}

// outs tells of all groups.
func (s *span) outs() []api.Out {
	var l []api.Out
	for _, g := range s.groups {
		o := g.out()
		o.From = s.from
		l = append(l, o)
	}
	return l
}

// out tells of all rows of a group, whatever window it is in.
func (g *group) out() api.Out {
	result, err := g.acc.Result()
	if err != nil {
		return fault(err)
	}
	return api.Out{Row: append(val.FreshAll(g.key), result...)}
}

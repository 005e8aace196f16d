package batch

import (
	"slices"

	"sluicebook/agg"
	"sluicebook/api"
	"sluicebook/val"
	"sluicebook/window"
)

// Known is what a Teller knows of the rows that came: the last time that was in order, and the windows that have rows and were not told, rising.
type Known struct {
	Last    int
	Windows []Window
}

// Window is where one begins, and its groups, by their values.
type Window struct {
	From   int
	Groups []Group
}

// Group is the values of the group's columns, and what is known of its rows.
type Group struct {
	Key   []api.Val
	Known agg.Known
}

// Known gives what a new one of the same query and columns can Learn, to go on as this one would.
func (t *Teller) Known() Known {
	k := Known{Last: t.groups.last}
	for _, s := range t.groups.open {
		k.Windows = append(k.Windows, s.known())
	}
	return k
}

func (s *span) known() Window {
	w := Window{From: s.from}
	for _, g := range s.groups {
		w.Groups = append(w.Groups, Group{Key: val.FreshAll(g.key), Known: g.acc.Known()})
	}
	return w
}

// Learn makes it know just that, and forget what it knew. ErrShape: such things are not known of its query and columns; then nothing is changed.
func (t *Teller) Learn(k Known) error {
	open, err := t.groups.spans(k)
	if err != nil {
		return api.ErrShape
	}
	t.groups.last, t.groups.open = k.Last, open
	return nil
}

// spans are its windows, if at that time all of them may be open.
func (g *grouping) spans(k Known) ([]*span, error) {
	// This is known of each query, also of one that has no windows at all.
	if k.Last == 0 && len(k.Windows) == 0 {
		return nil, nil
	}
	starts, err := window.Starts(k.Last, g.size, g.slide)
	if err != nil {
		return nil, err
	}
	var open []*span
	for _, w := range k.Windows {
		// Each is sought behind the one ahead of it, as they are to rise.
		i := slices.Index(starts, w.From)
		if i < 0 {
			return nil, api.ErrShape
		}
		starts = starts[i+1:]
		s, err := g.span(w)
		if err != nil {
			return nil, err
		}
		open = append(open, s)
	}
	return open, nil
}

func (g *grouping) span(w Window) (*span, error) {
	if len(w.Groups) < 1 || len(w.Groups) > api.MaxGroups {
		return nil, api.ErrShape
	}
	s := &span{from: w.From}
	for i, o := range w.Groups {
		if !g.isKey(o.Key) || i > 0 && compareKeys(w.Groups[i-1].Key, o.Key) >= 0 {
			return nil, api.ErrShape
		}
		acc, err := g.acc(o.Known)
		if err != nil {
			return nil, err
		}
		s.groups = append(s.groups, &group{key: val.FreshAll(o.Key), acc: acc})
	}
	return s, nil
}

// isKey tells whether these may be values of the group's columns.
func (g *grouping) isKey(key []api.Val) bool {
	return slices.EqualFunc(g.places, key, func(place int, v api.Val) bool {
		return val.Check(v) == nil && v.Type == g.sieve.cols[place].Type
	})
}

// acc is one that knows that of its rows, without which there is no group.
func (g *grouping) acc(k agg.Known) (*agg.Acc, error) {
	acc, err := agg.New(g.aggs, g.types)
	if err != nil {
		return nil, err
	}
	if k.Rows == 0 {
		return nil, api.ErrShape
	}
	return acc, acc.Learn(k)
}

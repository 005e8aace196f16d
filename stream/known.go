package stream

import (
	"slices"

	"sluicebook/api"
	"sluicebook/batch"
)

// Known is what a Stream knows: how many rows were Pushed, and what is left of them.
type Known struct {
	Rows int
	Left batch.Known
}

// Known gives what a new one of the same query and columns can Learn, to go on as this one would. ErrNone: it is what no New made.
func (s *Stream) Known() (Known, error) {
	if !s.isMade() {
		return Known{}, api.ErrNone
	}
	return Known{Rows: s.rows, Left: s.teller.Known()}, nil
}

// Learn makes it know just that, and forget what it knew. ErrShape: such things are not known of its query and columns; then nothing is changed.
func (s *Stream) Learn(k Known) error {
	if !k.mayBe() {
		return api.ErrShape
	}
	if err := s.teller.Learn(k.Left); err != nil {
		return err
	}
	s.rows = k.Rows
	return nil
}

// mayBe tells whether as many rows can leave that behind.
func (k Known) mayBe() bool {
	hasMore := func(g batch.Group) bool { return g.Known.Rows > k.Rows }
	anyHasMore := func(w batch.Window) bool { return slices.ContainsFunc(w.Groups, hasMore) }
	if slices.ContainsFunc(k.Left.Windows, anyHasMore) {
		return false
	}
	return k.Rows > 0 || k.Rows == 0 && k.Left.Last == 0
}

package batch_test

import (
	"fmt"
	"testing"

	"sluicebook/api"
	"sluicebook/batch"
	"sluicebook/plain"
)

// pushed writes what comes of a row that is Pushed, and how many windows are open then.
func pushed(t *testing.T, s *batch.Teller, r []api.Val) string {
	t.Helper()
	outs, err := s.Push(r)
	return fmt.Sprint(shown(t, outs), " ", plain.Told(err), " ", s.Open())
}

// TestTeller is of B2: row by row it is told as Run does, a row that is wrong changes nothing, and behind End all is as at first.
func TestTeller(t *testing.T) {
	s, err := batch.NewTeller(asked(t, counted+"4 slide 2"), heads(t, "at int,k int"))
	if err != nil {
		t.Fatal(err)
	}
	for range 2 {
		for _, c := range []struct{ row, want string }{
			{"3,1", " OK 2"},
			{"3", " ErrShape 2"},
			{"7,true", " ErrType 2"},
			{"2,1", "0:ErrState OK 2"},
			{"4,1", "0:1,1 OK 2"},
			{"-1,1", "0:ErrRange OK 2"},
		} {
			if got := pushed(t, s, table(t, c.row)[0]); got != c.want {
				t.Errorf("%s: %s, want %s", c.row, got, c.want)
			}
		}
		if got := shown(t, s.End()); got != "2:1,2 4:1,1" || s.Open() != 0 {
			t.Errorf("End: %s, %d open", got, s.Open())
		}
		if got := s.End(); len(got) > 0 {
			t.Errorf("End again: %v", got)
		}
	}
}

// TestTellerOfCols is of B1: of a query without a group nothing is left, and no window is open.
func TestTellerOfCols(t *testing.T) {
	s, err := batch.NewTeller(asked(t, "select 1 / k as p from s where k < 2"), heads(t, "k int"))
	if err != nil {
		t.Fatal(err)
	}
	for _, c := range []struct{ row, want string }{{"1", "0:1 OK 0"}, {"0", "0:ErrOver OK 0"}, {"'a'", " ErrType 0"}, {"2", " OK 0"}} {
		if got := pushed(t, s, table(t, c.row)[0]); got != c.want {
			t.Errorf("%s: %s, want %s", c.row, got, c.want)
		}
	}
	if got := s.End(); len(got) > 0 {
		t.Errorf("End: %v", got)
	}
}

// TestTellerNone is of B1 and P1: with an error there is none.
func TestTellerNone(t *testing.T) {
	q := asked(t, counted+"5")
	for cols, want := range map[string]api.Errno{"k int": api.ErrNone, "at text,k int": api.ErrType, "at int": api.ErrNone, "at int,k int": api.OK} {
		if s, err := batch.NewTeller(q, heads(t, cols)); plain.Told(err) != want || (s == nil) != (want != api.OK) {
			t.Errorf("%s: %v, %v, want %v", cols, s, err, want)
		}
	}
}

package batch_test

import (
	"fmt"
	"math"
	"slices"
	"strconv"
	"strings"
	"testing"

	"sluicebook/api"
	"sluicebook/batch"
)

// counted asks how many rows there are of each k.
const counted = "select count as n from s group by k window "

// TestTimeRange is of B2: `at` is from 0 to MaxTime; one beyond tells no window, is Added nowhere, and no later row is held against it.
func TestTimeRange(t *testing.T) {
	if api.MaxTime != 1_000_000 {
		t.Error("another number")
	}
	hold(t, counted+"5", "at int,k int", "0,1 1000000,1", "0:1,1 1000000:1,1")
	hold(t, counted+"5", "at int,k int", "-1,1", "0:ErrRange")
	hold(t, counted+"5", "at int,k int", "1000001,1", "0:ErrRange")
	hold(t, counted+"5", "at int,k int", "0,1 -1,1 1000000,1 1000001,1 1000000,1", "0:ErrRange 0:1,1 0:ErrRange 1000000:1,2")
	hold(t, counted+"5", "at int,k int", "3,1 1000001,1 4,1", "0:ErrRange 0:1,2")
	hold(t, counted+"5", "at int,k int", "3,1 9223372036854775807,1 4,1 -9223372036854775808,1 4,2", "0:ErrRange 0:ErrRange 0:1,2 0:2,1")
	hold(t, counted+"5", "at int,k int", "-1,1 0,1", "0:ErrRange 0:1,1")
	hold(t, counted+"1000 slide 100", "at int,k int", "1000000,7 1000001,7",
		"0:ErrRange 999100:7,1 999200:7,1 999300:7,1 999400:7,1 999500:7,1 999600:7,1 999700:7,1 999800:7,1 999900:7,1 1000000:7,1")
}

// TestTimeState is of B2: `at` is less than of a row ahead; one that is so is Added nowhere, and no later row is held against it.
func TestTimeState(t *testing.T) {
	hold(t, counted+"5", "at int,k int", "7,1 6,1 7,1", "0:ErrState 5:1,2")
	hold(t, counted+"5", "at int,k int", "7,1 3,1 5,1 6,1 7,1", "0:ErrState 0:ErrState 0:ErrState 5:1,2")
	hold(t, counted+"5", "at int,k int", "1,1 0,1", "0:ErrState 0:1,1")
	hold(t, counted+"5", "at int,k int", "1000000,1 999999,1 0,1", "0:ErrState 0:ErrState 1000000:1,1")
	hold(t, counted+"5", "at int,k int", "3,1 3,1 3,1", "0:1,3")
	hold(t, counted+"5", "at int,k int", "7,1 -1,1 6,1 1000001,1 7,1", "0:ErrRange 0:ErrState 0:ErrRange 5:1,2")
}

// TestTimeStateOfAny is of B2: a row is held against each ahead that had neither ErrRange nor ErrState, whatever else came of it.
func TestTimeStateOfAny(t *testing.T) {
	hold(t, "select count as n from s where k > 0 group by k window 5", "at int,k int", "2,1 4,0 3,1", "0:ErrState 0:1,1")
	hold(t, "select count as n from s where 1 / k > 0 group by k window 5", "at int,k int", "2,1 4,0 3,1", "0:ErrOver 0:ErrState 0:1,1")
	hold(t, "select sum(1 / k) as n from s group by k window 5", "at int,k int", "2,1 4,0 3,1", "0:ErrOver 0:ErrState 0:1,1")
	rows := append(keyed(2, 0, 40), []api.Val{number(4), number(40)}, []api.Val{number(3), number(0)})
	holdRows(t, asked(t, counted+"5"), heads(t, "at int,k int"), rows, "0:ErrFull 0:ErrState "+told(0, 0, 40, 1))
}

// TestTimeFirst is of B2: ErrRange and ErrState are told ahead of Where and of all that follows, and alone.
func TestTimeFirst(t *testing.T) {
	for _, where := range []string{"", "where false ", "where 1 / 0 = 0 ", "where true "} {
		for _, what := range []string{"count", "sum(1 / 0)", "most(k)"} {
			q := asked(t, "select "+what+" as n from s "+where+"group by k window 5")
			got := holdModel(t, q, heads(t, "at int,k int"), table(t, "3,1 -1,1 2,1 1000001,1 2,1"))
			var early []api.Errno
			for _, o := range got {
				if o.Err == api.ErrRange || o.Err == api.ErrState {
					early = append(early, o.Err)
				}
			}
			if !slices.Equal(early, []api.Errno{api.ErrRange, api.ErrState, api.ErrRange, api.ErrState}) {
				t.Errorf("%s%s: %v", what, where, got)
			}
		}
	}
}

// TestTellTime is of B2: a window is told by the first row whose `at` it ends at or below, and just once.
func TestTellTime(t *testing.T) {
	// 1 / 0 marks in what is told where a row stands.
	const marked = "select count as n, sum(1 / k) as m from s group by k window "
	hold(t, marked+"5", "at int,k int", "0,1 3,0 4,0 5,0 6,0", "0:ErrOver 0:ErrOver 0:1,1,1 0:ErrOver 0:ErrOver")
	hold(t, marked+"5", "at int,k int", "4,1 6,0", "0:1,1,1 0:ErrOver")
	hold(t, marked+"5", "at int,k int", "4,1 1000000,0", "0:1,1,1 0:ErrOver")
	hold(t, marked+"5", "at int,k int", "5,1 9,0 10,0", "0:ErrOver 5:1,1,1 0:ErrOver")
	hold(t, marked+"1", "at int,k int", "0,1 0,0 1,0 1,1 2,0", "0:ErrOver 0:1,1,1 0:ErrOver 1:1,1,1 0:ErrOver")
	hold(t, marked+"4 slide 2", "at int,k int", "3,1 3,0 4,0 5,0 6,0", "0:ErrOver 0:1,1,1 0:ErrOver 0:ErrOver 2:1,1,1 0:ErrOver")
	hold(t, marked+"5 slide 2", "at int,k int", "4,1 4,0 5,0 7,0 9,0", "0:ErrOver 0:1,1,1 0:ErrOver 2:1,1,1 0:ErrOver 4:1,1,1 0:ErrOver")
	hold(t, marked+"1000", "at int,k int", "0,1 999,0 1000,0", "0:ErrOver 0:1,1,1 0:ErrOver")
	// Neither ErrRange nor ErrState tells a window.
	hold(t, marked+"5", "at int,k int", "4,1 1000001,0 4,0", "0:ErrRange 0:ErrOver 0:1,1,1")
	hold(t, marked+"5", "at int,k int", "4,1 6,1 5,0", "0:1,1,1 0:ErrState 5:1,1,1")
}

// TestTellAhead is of B2: what is told of windows comes ahead of the row's own Out, also where its Where is false or has ErrOver, or there is no room.
func TestTellAhead(t *testing.T) {
	hold(t, "select count as n from s where k > 0 group by k window 5", "at int,k int", "1,7 5,0 6,8", "0:7,1 5:8,1")
	hold(t, "select count as n from s where 1 / k > 0 group by k window 5", "at int,k int", "1,1 5,0 6,1", "0:1,1 0:ErrOver 5:1,1")
	hold(t, "select least(1 / k) as n from s group by k window 5", "at int,k int", "1,1 5,0 6,1", "0:1,1 0:ErrOver 5:1,1")
	// Told by a row that is let through nowhere, and nothing is left.
	hold(t, "select count as n from s where k > 0 group by k window 5", "at int,k int", "1,7 5,0", "0:7,1")
	rows := append(keyed(4, 0, 40), []api.Val{number(6), number(40)})
	holdRows(t, asked(t, counted+"6 slide 3"), heads(t, "at int,k int"), rows, told(0, 0, 40, 1)+" 0:ErrFull "+told(3, 0, 40, 1))
}

// TestTellOrder is of B2: by window, then by the group's values, whatever order the rows had.
func TestTellOrder(t *testing.T) {
	hold(t, counted+"4 slide 2", "at int,k int", "3,2 3,1 5,1 20,9", "0:1,1 0:2,1 2:1,2 2:2,1 4:1,1 18:9,1 20:9,1")
	hold(t, counted+"4 slide 2", "at int,k int", "3,2 3,1 5,1", "0:1,1 0:2,1 2:1,2 2:2,1 4:1,1")
	hold(t, counted+"2", "at int,k int", "0,3 1,2 2,2 3,1 4,1 5,0", "0:2,1 0:3,1 2:1,1 2:2,1 4:0,1 4:1,1")
	hold(t, counted+"2", "at int,k int", "1,10 1,9 1,-10 1,9223372036854775807 1,-9 1,-9223372036854775808 1,0",
		"0:-9223372036854775808,1 0:-10,1 0:-9,1 0:0,1 0:9,1 0:10,1 0:9223372036854775807,1")
	hold(t, counted+"2", "at int,k bool", "1,true 1,false 1,true", "0:false,1 0:true,2")
	hold(t, counted+"2", "at int,k text", "1,'b' 1,'9' 1,'aa' 1,'' 1,'Z' 1,'10' 1,'a' 1,'a' 1,'~'",
		"0:'',1 0:'10',1 0:'9',1 0:'Z',1 0:'a',2 0:'aa',1 0:'b',1 0:'~',1")
}

// TestTellOrderOfSeveral is of B2: of several columns from the left, as the query has them and not the schema.
func TestTellOrderOfSeveral(t *testing.T) {
	const rows = "1,'b',1,true 1,'a',2,false 1,'b',1,false 1,'a',1,true 1,'a',2,true 1,'b',-1,true"
	l := "at int,k text,n int,b bool"
	hold(t, "select count as c from s group by k, n, b window 2", l, rows,
		"0:'a',1,true,1 0:'a',2,false,1 0:'a',2,true,1 0:'b',-1,true,1 0:'b',1,false,1 0:'b',1,true,1")
	hold(t, "select count as c from s group by b, n, k window 2", l, rows,
		"0:false,1,'b',1 0:false,2,'a',1 0:true,-1,'b',1 0:true,1,'a',1 0:true,1,'b',1 0:true,2,'a',1")
	hold(t, "select count as c from s group by n, b window 2", l, rows,
		"0:-1,true,1 0:1,false,1 0:1,true,2 0:2,false,1 0:2,true,1")
	hold(t, "select count as c from s group by k, at window 4", l, "1,'b',1,true 2,'a',1,true 3,'b',1,true 3,'a',1,true",
		"0:'a',2,1 0:'a',3,1 0:'b',1,1 0:'b',3,1")
	// What stands on one side of a comma in one row stands on the other side in another.
	hold(t, "select count as c from s group by k, t window 2", "at int,k text,t text", "1,'a','aa' 1,'aa','a' 1,'','aaa' 1,'aaa',''",
		"0:'','aaa',1 0:'a','aa',1 0:'aa','a',1 0:'aaa','',1")
}

// TestAggregates is of B2: the group's columns, then each aggregate's Result, as the query has them.
func TestAggregates(t *testing.T) {
	l := "at int,k text,n int,b bool"
	const rows = "1,'a',5,true 2,'b',-3,true 3,'a',7,false 3,'a',-20,true 4,'b',0,true"
	hold(t, "select sum(n) as s, count as c, least(n) as l, most(n) as m from s group by k window 10", l, rows, "0:'a',-8,3,-20,7 0:'b',-3,2,-3,0")
	hold(t, "select most(b) as p, least(b) as q from s group by k window 10", l, rows, "0:'a',true,false 0:'b',true,true")
	hold(t, "select least(k) as p, most(k) as q, sum(len(k) * n) as r from s group by at window 10", l, rows,
		"0:1,'a','a',5 0:2,'b','b',-3 0:3,'a','a',-13 0:4,'b','b',0")
	hold(t, "select count as p, count as q, sum(1) as r from s group by b window 10", l, rows, "0:false,1,1,1 0:true,4,4,4")
	hold(t, "select most(if(b, n, 0 - n)) as p, least(n = 0 or b) as q from s group by k window 10", l, rows, "0:'a',5,false 0:'b',0,true")
}

// TestWhere is of B2: rows are Added for which Where comes to true, or is nothing.
func TestWhere(t *testing.T) {
	l := "at int,k int,b bool"
	hold(t, "select sum(k) as n from s where b group by b window 5", l, "1,3,true 2,4,false 3,5,true 6,7,false", "0:true,8")
	hold(t, "select sum(k) as n from s where k < 5 group by b window 5", l, "1,3,true 2,4,false 3,5,true", "0:false,4 0:true,3")
	hold(t, "select sum(k) as n from s where at % 2 = 1 group by b window 5", l, "1,3,true 2,4,false 3,5,true", "0:true,8")
	hold(t, "select sum(k) as n from s where true group by b window 5", l, "1,3,true 2,4,false", "0:false,4 0:true,3")
	// A group of which no row is let through is none.
	hold(t, "select count as n from s where k > 3 group by k window 5", l, "1,3,true 2,4,true 6,3,true 7,4,true", "0:4,1 5:4,1")
	// Of a row that is not let through no Of is reckoned.
	hold(t, "select sum(1 / k) as n from s where k <> 0 group by b window 5", l, "1,0,true 2,1,true", "0:true,1")
}

// TestAddOver is of B2: Where, or an aggregate's Of, comes to ErrOver: the row is Added nowhere, and no group is there for it.
func TestAddOver(t *testing.T) {
	hold(t, "select count as n from s where 1 / k > 0 group by k window 5", "at int,k int", "1,0 2,1 3,0", "0:ErrOver 0:ErrOver 0:1,1")
	hold(t, "select count as n, sum(1 / k) as m from s group by k window 5", "at int,k int", "1,0 2,1 3,0", "0:ErrOver 0:ErrOver 0:1,1,1")
	hold(t, "select count as n, least(k) as m, most(1 / k) as o from s group by b window 5", "at int,k int,b bool", "1,5,true 2,0,true 3,1,true", "0:ErrOver 0:true,2,1,1")
	hold(t, "select sum(k + 1) as n from s group by b window 4 slide 2", "at int,k int,b bool", "2,9223372036854775807,true 2,1,true", "0:ErrOver 0:true,2 2:true,2")
	hold(t, "select sum(- k) as n from s where k * k > 0 group by b window 5", "at int,k int,b bool", "2,3037000500,true 2,-9223372036854775808,true 3,2,true", "0:ErrOver 0:ErrOver 0:true,-2")
	// Two at once are one Out, and one ahead that is told by a row is another.
	hold(t, "select sum(1 / k) as n, sum(2 / k) as m from s where 3 / k > 0 group by b window 5", "at int,k int,b bool", "2,0,true", "0:ErrOver")
}

// TestWindows is of B2: a row is Added in each window that holds it.
func TestWindows(t *testing.T) {
	hold(t, counted+"5", "at int,k int", "0,1 4,1 5,1 9,1 10,1", "0:1,2 5:1,2 10:1,1")
	hold(t, counted+"6 slide 2", "at int,k int", "0,1 1,1 2,1 3,1 4,1 5,1 6,1", "0:1,6 2:1,5 4:1,3 6:1,1")
	hold(t, counted+"5 slide 2", "at int,k int", "4,1", "0:1,1 2:1,1 4:1,1")
	hold(t, counted+"5 slide 2", "at int,k int", "5,1", "2:1,1 4:1,1")
	hold(t, counted+"10 slide 1", "at int,k int", "9,1", "0:1,1 1:1,1 2:1,1 3:1,1 4:1,1 5:1,1 6:1,1 7:1,1 8:1,1 9:1,1")
	hold(t, counted+"10 slide 9", "at int,k int", "8,1 9,1 10,1 18,1", "0:1,2 9:1,3 18:1,1")
	hold(t, counted+"1", "at int,k int", "8,1 8,1 9,1 1000000,1", "8:1,2 9:1,1 1000000:1,1")
	hold(t, counted+"1000", "at int,k int", "999,1 1000,1 1999,1", "0:1,1 1000:1,2")
	hold(t, "select sum(v) as n from s group by k window 4 slide 2", "at int,k text,v int", "1,'a',1 2,'a',10 3,'b',100 4,'a',1000 6,'b',10000",
		"0:'a',11 0:'b',100 2:'a',1010 2:'b',100 4:'a',1000 4:'b',10000 6:'b',10000")
}

// TestResultOver is of B2: a Result that goes over is Err of that group's Out, which has From and no Row; the others are told.
func TestResultOver(t *testing.T) {
	const q, l, most = "select sum(v) as n, count as m from s group by k window 5", "at int,k text,v int", "9223372036854775807"
	hold(t, q, l, "1,'b',"+most+" 1,'b',1 1,'a',5 1,'c',6", "0:'a',5,1 0:ErrOver 0:'c',6,1")
	hold(t, q, l, "6,'b',"+most+" 6,'b',1 6,'a',5 6,'c',6", "5:'a',5,1 5:ErrOver 5:'c',6,1")
	hold(t, q, l, "6,'b',-9223372036854775808 6,'b',-1 1000000,'b',2", "5:ErrOver 1000000:'b',2,1")
	hold(t, "select sum(v) as n from s group by k window 4 slide 2", l, "2,'a',"+most+" 2,'a',"+most+" 4,'a',-"+most+" 6,'a',0",
		"0:ErrOver 2:'a',"+most+" 4:'a',-"+most+" 6:'a',0")
	// The first of several that goes over is as good as each other.
	hold(t, "select count as n, sum(v) as m, sum(v) as o from s group by k window 5", l, "1,'a',"+most+" 1,'a',"+most, "0:ErrOver")
}

// TestSumBack is of B2: a sum goes far beyond an int between the rows of a group, and comes back.
func TestSumBack(t *testing.T) {
	const q, l, most = "select sum(v) as n from s group by k window 5", "at int,k text,v int", "9223372036854775807"
	hold(t, q, l, "1,'a',"+most+" 1,'a',5 1,'a',-5", "0:'a',"+most)
	hold(t, q, l, "1,'a',-9223372036854775808 1,'a',-1 2,'a',1", "0:'a',-9223372036854775808")
	for _, c := range []struct {
		up, down int
		want     string
	}{
		{math.MaxInt, -math.MaxInt, "0"},
		{math.MinInt, math.MaxInt, "-150"},
		{-(math.MinInt / 2), math.MinInt / 2, "0"},
	} {
		var rows [][]api.Val
		for i := range 300 {
			v := number(c.up)
			if i >= 150 {
				v = number(c.down)
			}
			rows = append(rows, []api.Val{number(i / 100), words("a"), v})
		}
		holdRows(t, asked(t, q), heads(t, l), rows, "0:'a',"+c.want)
		rows[299][2] = number(c.up)
		holdRows(t, asked(t, q), heads(t, l), rows, "0:ErrOver")
		slices.Reverse(rows)
		for i := range rows {
			rows[i][0] = number(i)
		}
		holdModel(t, asked(t, "select sum(v) as n from s group by k window 100 slide 10"), heads(t, l), rows)
	}
}

// keyed gives rows at one time, of which k goes from first up to, but not with, last.
func keyed(at, first, last int) [][]api.Val {
	var rows [][]api.Val
	for k := first; k < last; k++ {
		rows = append(rows, []api.Val{number(at), number(k)})
	}
	return rows
}

// told is what is told of a window of which each such group has n rows.
func told(from, first, last, n int) string {
	var l []string
	for k := first; k < last; k++ {
		l = append(l, fmt.Sprintf("%d:%d,%d", from, k, n))
	}
	return strings.Join(l, " ")
}

// TestGroupsFull is of B2: 40 groups, and one more: that row is Added nowhere, while one of a group that is there is.
func TestGroupsFull(t *testing.T) {
	if api.MaxGroups != 40 {
		t.Error("another number")
	}
	q, l := asked(t, counted+"5"), heads(t, "at int,k int")
	holdRows(t, q, l, keyed(1, 0, 39), told(0, 0, 39, 1))
	holdRows(t, q, l, keyed(1, 0, 40), told(0, 0, 40, 1))
	holdRows(t, q, l, keyed(1, 0, 41), "0:ErrFull "+told(0, 0, 40, 1))
	holdRows(t, q, l, keyed(1, 0, 43), "0:ErrFull 0:ErrFull 0:ErrFull "+told(0, 0, 40, 1))
	twice := slices.Concat(keyed(1, 0, 41), keyed(2, 0, 41), keyed(4, 40, 41))
	holdRows(t, q, l, twice, "0:ErrFull 0:ErrFull 0:ErrFull "+told(0, 0, 40, 2))
	// One that would be ahead of all others has no more room than one behind them.
	downward := keyed(1, 0, 41)
	slices.Reverse(downward)
	holdRows(t, q, l, downward, "0:ErrFull "+told(0, 1, 41, 1))
	// The next window has room of its own, also for the row that tells of the full one.
	holdRows(t, q, l, slices.Concat(keyed(1, 0, 41), keyed(5, 40, 81)), "0:ErrFull "+told(0, 0, 40, 1)+" 0:ErrFull "+told(5, 40, 80, 1))
}

// TestGroupsFullBeside is of B2: a window is full beside one that is not: the row is Added to neither.
func TestGroupsFullBeside(t *testing.T) {
	q, l := asked(t, counted+"4 slide 2"), heads(t, "at int,k int")
	full := keyed(1, 0, 40)
	holdRows(t, q, l, append(slices.Clone(full), keyed(2, 40, 41)...), "0:ErrFull "+told(0, 0, 40, 1))
	holdRows(t, q, l, append(slices.Clone(full), keyed(3, 40, 42)...), "0:ErrFull 0:ErrFull "+told(0, 0, 40, 1))
	// One of a group that is there already is Added to both.
	holdRows(t, q, l, append(slices.Clone(full), keyed(3, 39, 42)...), "0:ErrFull 0:ErrFull "+told(0, 0, 39, 1)+" 0:39,2 2:39,1")
	// When the full one is told there is room.
	holdRows(t, q, l, slices.Concat(full, keyed(3, 40, 41), keyed(4, 40, 41)), "0:ErrFull "+told(0, 0, 40, 1)+" 2:40,1 4:40,1")
	// A group of the full one may be new in the other, which fills beside it.
	rows := slices.Concat(keyed(1, 0, 20), keyed(2, 20, 41), keyed(3, 0, 20), keyed(3, 40, 41), keyed(4, 41, 42))
	holdRows(t, q, l, rows, "0:ErrFull 0:ErrFull "+told(0, 0, 20, 2)+" "+told(0, 20, 40, 1)+" 0:ErrFull "+told(2, 0, 40, 1))
	// With ten windows that hold a row, the first alone is full.
	wide := slices.Concat(keyed(0, 0, 40), keyed(9, 40, 41), keyed(10, 40, 41))
	var after []string
	for from := 1; from <= 10; from++ {
		after = append(after, strconv.Itoa(from)+":40,1")
	}
	holdRows(t, asked(t, counted+"10 slide 1"), l, wide, "0:ErrFull "+told(0, 0, 40, 1)+" "+strings.Join(after, " "))
}

// TestGroupsFullLast is of B2: ErrFull is of a row that is let through and comes to no ErrOver.
func TestGroupsFullLast(t *testing.T) {
	l := heads(t, "at int,k int")
	holdRows(t, asked(t, "select count as n from s where k <> 40 group by k window 5"), l, keyed(1, 0, 41), told(0, 0, 40, 1))
	holdRows(t, asked(t, "select count as n from s where 1 / (k - 40) <> 2 group by k window 5"), l, keyed(1, 0, 42), "0:ErrOver 0:ErrFull "+told(0, 0, 40, 1))
	holdRows(t, asked(t, "select sum(0 / (k - 40) + 1) as n from s group by k window 5"), l, keyed(1, 0, 42), "0:ErrOver 0:ErrFull "+told(0, 0, 40, 1))
	// What has ErrOver, or is not let through, takes no room.
	holdRows(t, asked(t, "select sum(0 / k + 1) as n from s where k <> 1 group by k window 5"), l, keyed(1, 0, 42), "0:ErrOver "+told(0, 2, 42, 1))
}

// TestGroupsFullOfSeveral is of B2: groups are counted by all of their values; and of no columns there is one.
func TestGroupsFullOfSeveral(t *testing.T) {
	l := heads(t, "at int,k int,b bool")
	var rows [][]api.Val
	for k := range 41 {
		rows = append(rows, []api.Val{number(1), number(k / 2), {Type: api.Bool, N: k % 2}})
	}
	got := holdModel(t, asked(t, "select count as n from s group by k, b window 5"), l, rows)
	if len(got) != 41 || got[0].Err != api.ErrFull {
		t.Errorf("%d Outs, %v", len(got), got[0])
	}
	if got := holdModel(t, asked(t, "select count as n from s group by b, k window 5"), l, rows); len(got) != 41 || got[0].Err != api.ErrFull {
		t.Errorf("%d Outs, %v", len(got), got[0])
	}
	if got := holdModel(t, asked(t, "select count as n from s group by k window 5"), l, rows); len(got) != 21 {
		t.Errorf("%d Outs", len(got))
	}
	q := asked(t, counted+"5")
	q.Group = nil
	holdRows(t, q, l, rows, "0:41")
}

// TestHalves is of B2: a group without aggregates, and aggregates without a group's columns, which chapter 12's Check lets through.
func TestHalves(t *testing.T) {
	q, l := asked(t, counted+"4 slide 2"), heads(t, "at int,k int")
	q.Aggs = nil
	holdRows(t, q, l, table(t, "1,5 3,4 3,5"), "0:4 0:5 2:4 2:5")
	q = asked(t, "select count as n, most(k) as m from s group by k window 4 slide 2")
	q.Group = nil
	holdRows(t, q, l, table(t, "1,5 3,4 3,5 8,1"), "0:3,5 2:2,5 6:1,1 8:1,1")
	q.Group = []string{}
	holdRows(t, q, l, table(t, "1,5"), "0:1,5")
}

// TestEnd is of B2: at the end all windows with rows that were not told; none where there are none.
func TestEnd(t *testing.T) {
	hold(t, counted+"5", "at int,k int", "", "")
	hold(t, counted+"10 slide 1", "at int,k int", "", "")
	hold(t, "select count as n from s where k > 9 group by k window 5", "at int,k int", "1,1 2,2 7,3", "")
	hold(t, "select count as n from s where false group by k window 5", "at int,k int", "1,1 2,2 1000000,3", "")
	hold(t, counted+"5", "at int,k int", "-1,1 1000001,1", "0:ErrRange 0:ErrRange")
	hold(t, "select sum(1 / 0) as n from s group by k window 5", "at int,k int", "1,1 6,1", "0:ErrOver 0:ErrOver")
	hold(t, counted+"4 slide 2", "at int,k int", "7,1 9,2", "4:1,1 6:1,1 6:2,1 8:2,1")
	// At the end a sum is told that would have come back.
	hold(t, "select sum(k) as n from s group by b window 5", "at int,k int,b bool", "1,9223372036854775807,true 2,1,true", "0:ErrOver")
}

// TestTimePlaces is of B1 and B2: `at` may stand at each place, and the group's columns too.
func TestTimePlaces(t *testing.T) {
	for i := range 6 {
		names := []string{"a", "b", "c", "d", "e"}
		names = slices.Insert(names, i, "at")
		var l []api.Col
		var row []api.Val
		for j, name := range names {
			l = append(l, api.Col{Name: name, Type: api.Int})
			row = append(row, number(10+j))
		}
		row[i] = number(7)
		for j, name := range names {
			q := asked(t, "select most("+name+") as n from s group by "+name+" window 5")
			text := strconv.Itoa(row[j].N)
			holdRows(t, q, l, [][]api.Val{row}, "5:"+text+","+text)
		}
	}
}

// TestNamesApart is of B1 and B2: another name that is like `at` is no time, and what comes may be named `at`.
func TestNamesApart(t *testing.T) {
	hold(t, "select most(att) as at from s group by a window 5", "a int,att int,at int,t int", "1,50,6,70 1,51,7,71", "5:1,51")
	hold(t, "select count as at from s group by a window 5", "a int,at int", "1,6 1,3", "0:ErrState 5:1,1")
	// From is where the query has its rows from, of which nothing is asked.
	q := asked(t, counted+"5")
	q.From = "Nowhere at all"
	holdRows(t, q, heads(t, "at int,k int"), table(t, "6,1"), "5:1,1")
	if _, err := batch.Run(q, heads(t, "k int"), nil); err == nil {
		t.Error("no column is `at`")
	}
}

package lag_test

import (
	"math"
	"slices"
	"testing"

	"quinella/api"
	"quinella/lag"
)

func list(numbers ...int64) []int64 { return numbers }

func chain(curves ...[]int64) [][]int64 { return curves }

func ratio(num, den int64) api.Ratio { return api.Ratio{Num: num, Den: den} }

// long returns a row of so many turns with the same number.
func long(turns int, n int64) []int64 { return slices.Repeat(list(n), turns) }

// The curves and the row of the chapter's examples.
var (
	curveA = list(3, 4, 4)
	curveB = list(0, 2, 4)
	rowR   = list(3, 1, 0, 3, 1, 0)
)

// badCurves are lists that are no curves, with their errors.
var badCurves = []struct {
	curve []int64
	e     api.Errno
}{
	{nil, api.ErrMany},
	{list(), api.ErrMany},
	{list(1, 2, 3, 4, 5, 6, 7), api.ErrMany},
	{list(9, 101, -1, 0, 0, 0, 0), api.ErrMany},
	{list(-1), api.ErrRange},
	{list(101), api.ErrRange},
	{list(3, 2, 101), api.ErrRange}, // before ErrRule
	{list(3, 2, -1), api.ErrRange},
	{list(math.MaxInt64, math.MinInt64), api.ErrRange},
	{list(3, 2), api.ErrRule},
	{list(0, 0, 0, 0, 1, 0), api.ErrRule},
}

// badChains are lists that are no chains, with their errors.
var badChains = []struct {
	chain [][]int64
	e     api.Errno
}{
	{nil, api.ErrMany},
	{chain(), api.ErrMany},
	{chain(curveB, curveB, curveB, curveB), api.ErrMany},
	{chain(list(-1), list(3, 2), nil, nil), api.ErrMany},
	{chain(nil), api.ErrMany},
	{chain(list(-1), list(3, 2), nil), api.ErrRange},
	{chain(curveB, list(3, 2), nil), api.ErrRule}, // the first one that is not right
	{chain(curveB, nil, list(3, 2)), api.ErrMany},
	{chain(curveB, curveB, list(0, 101)), api.ErrRange},
}

// badRows are lists that are no rows, with their errors.
var badRows = []struct {
	row []int64
	e   api.Errno
}{
	{long(61, 0), api.ErrMany},
	{long(61, -1), api.ErrMany},
	{list(-1), api.ErrRange},
	{list(0, 10001), api.ErrRange},
	{list(math.MaxInt64, 1), api.ErrRange},
	{list(math.MinInt64), api.ErrRange},
}

// P2.1
func TestCheckCurve(t *testing.T) {
	for _, curve := range [][]int64{
		curveA, curveB, list(0), list(100), list(7, 7), list(0, 0, 0, 0, 0, 0), long(6, 100), list(0, 20, 40, 60, 80, 100),
	} {
		if e := lag.CheckCurve(curve); e != api.OK {
			t.Error(curve, e)
		}
	}
	for _, x := range badCurves {
		if e := lag.CheckCurve(x.curve); e != x.e {
			t.Error(x.curve, e)
		}
	}
}

func TestErrorsOfCurvesComeFirst(t *testing.T) {
	for _, x := range badCurves {
		got := map[string]api.Errno{}
		_, got["Most"] = lag.Most(x.curve, -1)
		_, got["Rate"] = lag.Rate(x.curve, true)
		_, got["Rate of a shaft"] = lag.Rate(x.curve, false)
		_, _, got["Break"] = lag.Break(x.curve, long(61, -1))
		_, got["Came"] = lag.Came(x.curve, -1)
		got["CheckAdded"] = lag.CheckAdded(x.curve, long(61, -1), list(-1))
		_, got["Added"] = lag.Added(x.curve, long(61, -1))
		_, got["Wait"] = lag.Wait(x.curve, nil)
		_, got["Late"] = lag.Late(x.curve, chain(list(3, 1, -1)))
		_, got["Behind"] = lag.Behind(x.curve, chain(nil, list(-1)))
		for name, e := range got {
			if e != x.e {
				t.Error(name, x.curve, e)
			}
		}
	}
}

func TestErrorsOfChains(t *testing.T) {
	for _, x := range badChains {
		got := map[string]api.Errno{}
		_, got["Least"] = lag.Least(x.chain, -1)
		_, got["Wait"] = lag.Wait(list(100), x.chain)
		_, got["Late"] = lag.Late(list(100), x.chain)
		_, got["Behind"] = lag.Behind(list(100), x.chain)
		for name, e := range got {
			if e != x.e {
				t.Error(name, x.chain, e)
			}
		}
	}
}

func TestErrorsOfRows(t *testing.T) {
	for _, x := range badRows {
		got := map[string]api.Errno{}
		_, _, got["Break"] = lag.Break(curveA, x.row)
		_, got["Added"] = lag.Added(curveB, x.row)
		for _, y := range badRows {
			got["CheckAdded"] = lag.CheckAdded(curveB, x.row, y.row) // both errors of what came are before those of what was added
			_, _, got["Seen"] = lag.Seen(x.row, y.row)
			for name, e := range got {
				if e != x.e {
					t.Error(name, len(x.row), x.row[0], len(y.row), y.row[0], e)
				}
			}
		}
		for _, came := range [][]int64{nil, list(0), long(60, 0), long(60, 10000)} {
			if e := lag.CheckAdded(curveB, came, x.row); e != x.e {
				t.Error(len(came), len(x.row), e)
			}
			if _, _, e := lag.Seen(came, x.row); e != x.e {
				t.Error(len(came), len(x.row), e)
			}
		}
	}
}

func TestErrorsOfTurns(t *testing.T) {
	for _, turns := range []int{-1, 201, math.MaxInt, math.MinInt} {
		if n, e := lag.Most(curveA, turns); n != 0 || e != api.ErrRange {
			t.Error(turns, n, e)
		}
		if n, e := lag.Least(chain(curveB, curveB), turns); n != 0 || e != api.ErrRange {
			t.Error(turns, n, e)
		}
	}
	for _, turns := range []int{-1, 61, 200, math.MaxInt, math.MinInt} {
		if row, e := lag.Came(curveA, turns); len(row) != 0 || e != api.ErrRange {
			t.Error(turns, row, e)
		}
	}
}

// P2.2
func TestMost(t *testing.T) {
	for _, x := range []struct {
		curve, most []int64 // for 0 turns, 1, ..
	}{
		{curveA, list(0, 3, 4, 4, 7, 8, 8, 11)},
		{curveB, list(0, 0, 0, 0, 0, 0, 0)},
		{list(5), list(0, 5, 10, 15)},
		{list(0), list(0, 0, 0)},
		{list(2, 3, 9, 9), list(0, 2, 3, 5, 6, 8, 9)},
		{list(1, 5, 5), list(0, 1, 2, 3, 4)},
		{list(4, 4, 4, 4, 4, 6), list(0, 4, 4, 4, 4, 4, 6, 8, 8, 8, 8, 10, 12)},
	} {
		for turns, want := range x.most {
			if n, e := lag.Most(x.curve, turns); n != want || e != api.OK {
				t.Error(x.curve, turns, n, e)
			}
		}
	}
	for _, x := range []struct {
		curve []int64
		most  int64
	}{
		{curveA, 268}, {list(100), 20000}, {long(6, 100), 3400}, {long(6, 0), 0}, {list(4, 4, 4, 4, 4, 6), 160},
	} {
		if n, e := lag.Most(x.curve, 200); n != x.most || e != api.OK {
			t.Error(x.curve, n, e)
		}
	}
}

// P2.2
func TestLeast(t *testing.T) {
	for _, x := range []struct {
		chain [][]int64
		least []int64 // for 0 turns, 1, ..
	}{
		{chain(curveB), list(0, 0, 2, 4, 4, 6, 8, 8)},
		{chain(curveB, curveB), list(0, 0, 0, 2, 4, 4, 6, 8)},
		{chain(curveB, curveB, curveB), list(0, 0, 0, 0, 2, 4, 4, 6, 8)},
		{chain(list(5)), list(0, 5, 10, 15)},
		{chain(list(5), curveB), list(0, 0, 2, 4, 4, 6)},
		{chain(curveB, list(5)), list(0, 0, 2, 4, 4, 6)},
		{chain(list(2, 2)), list(0, 2, 2, 4, 4, 6)},
		{chain(list(1, 1), list(0, 3), list(9)), list(0, 0, 1, 1, 2, 2)},
		{chain(list(9), list(0), list(9)), list(0, 0, 0, 0)},
	} {
		for turns, want := range x.least {
			if n, e := lag.Least(x.chain, turns); n != want || e != api.OK {
				t.Error(x.chain, turns, n, e)
			}
		}
	}
	for _, x := range []struct {
		chain [][]int64
		least int64
	}{
		{chain(curveB), 266}, {chain(list(100)), 20000}, {chain(long(6, 100), long(6, 100), long(6, 100)), 3400},
		{chain(list(0, 0, 0, 0, 0, 6), list(0, 0, 0, 0, 0, 6), list(0, 0, 0, 0, 0, 6)), 186},
	} {
		if n, e := lag.Least(x.chain, 200); n != x.least || e != api.OK {
			t.Error(x.chain, n, e)
		}
	}
}

// P2.2
func TestRate(t *testing.T) {
	for _, x := range []struct {
		curve         []int64
		comes, shafts api.Ratio
	}{
		{curveA, ratio(4, 3), ratio(4, 3)},
		{curveB, ratio(0, 1), ratio(4, 3)},
		{list(5), ratio(5, 1), ratio(5, 1)},
		{list(0, 0, 0), ratio(0, 1), ratio(0, 1)},
		{list(2, 3, 9, 9), ratio(3, 2), ratio(9, 4)},
		{list(4, 4, 4, 4, 4, 6), ratio(4, 5), ratio(1, 1)},
		{long(6, 100), ratio(50, 3), ratio(50, 3)},
		{list(100, 100), ratio(50, 1), ratio(50, 1)},
		{list(7, 30, 31), ratio(7, 1), ratio(31, 3)},
	} {
		if q, e := lag.Rate(x.curve, true); q != x.comes || e != api.OK {
			t.Error(x.curve, q, e)
		}
		if q, e := lag.Rate(x.curve, false); q != x.shafts || e != api.OK {
			t.Error(x.curve, q, e)
		}
	}
}

// P2.3
func TestBreak(t *testing.T) {
	full := long(60, 0)
	full[59] = 10000
	for i, x := range []struct {
		curve, row   []int64
		first, turns int
		e            api.Errno
	}{
		{curveA, rowR, 0, 0, api.ErrNone},
		{curveA, nil, 0, 0, api.ErrNone},
		{curveA, list(3, 1, 1, 0), 0, 3, api.OK},
		{curveA, list(0, 0, 4), 2, 1, api.OK},
		{curveA, list(1, 3, 1, 4), 0, 3, api.OK}, // begins first, though others are fewer
		{curveA, list(4, 9), 0, 1, api.OK},       // as few turns as can be
		{curveA, list(0, 2, 2, 0, 2, 2, 1), 1, 6, api.OK},
		{curveA, list(1, 0, 0, 0, 3, 2, 0), 3, 3, api.OK}, // begins with a turn in which nothing comes
		{list(2), list(0, 2, 2, 2, 3), 1, 4, api.OK},
		{list(2), list(2, 2, 2, 2, 2), 0, 0, api.ErrNone},
		{list(0), list(0, 0, 1), 0, 3, api.OK},
		{list(100), long(60, 100), 0, 0, api.ErrNone},
		{list(100), full, 0, 60, api.OK},
		{list(1), append(long(59, 1), 2), 0, 60, api.OK},
	} {
		if first, turns, e := lag.Break(x.curve, x.row); first != x.first || turns != x.turns || e != x.e {
			t.Error(i, first, turns, e)
		}
	}
}

// P2.3
func TestCame(t *testing.T) {
	for _, x := range []struct {
		curve, row []int64
	}{
		{curveA, rowR},
		{curveA, nil},
		{curveB, long(60, 0)},
		{list(100), long(60, 100)},
		{list(4, 4, 4, 4, 4, 6), list(4, 0, 0, 0, 0, 2, 2, 0)},
		{list(2, 3, 9, 9), list(2, 1, 2, 1)}, // numbers that are greater than those of cuts do not count
	} {
		if row, e := lag.Came(x.curve, len(x.row)); !slices.Equal(row, x.row) || e != api.OK {
			t.Error(x.curve, row, e)
		}
	}
}

// P2.4
func TestCheckAdded(t *testing.T) {
	for i, x := range []struct {
		came, added []int64
		e           api.Errno
	}{
		{rowR, list(0, 2, 2, 0, 2, 2), api.OK},
		{rowR, rowR, api.OK},
		{rowR, list(1, 1, 2, 0, 2, 2), api.OK},
		{rowR, list(0, 1, 3, 0, 2, 2), api.ErrLag},
		{rowR, list(0, 2, 2, 0, 2, 1), api.ErrLag},
		{rowR, list(0, 0, 0, 0, 0, 0), api.ErrLag},
		{rowR, list(4, 0, 0, 3, 1, 0), api.ErrSum},
		{rowR, list(0, 2, 2, 0, 2, 3), api.ErrSum},
		{rowR, list(0, 0, 0, 0, 9, 0), api.ErrSum}, // before ErrLag
		{rowR, list(0, 2, 2, 0, 2), api.ErrEqual},
		{rowR, list(9, 2, 2, 0, 2), api.ErrEqual}, // before ErrSum
		{list(1), nil, api.ErrEqual},
		{nil, list(1), api.ErrEqual},
		{nil, nil, api.OK},
		{long(60, 10000), long(60, 10000), api.OK},
		{long(60, 0), long(61, 0), api.ErrMany},
		{long(61, 0), long(61, 0), api.ErrMany},
	} {
		if e := lag.CheckAdded(curveB, x.came, x.added); e != x.e {
			t.Error(i, e)
		}
	}
}

// P2.4
func TestAdded(t *testing.T) {
	for i, x := range []struct {
		curve, came, added []int64
	}{
		{curveB, rowR, list(0, 2, 2, 0, 2, 2)},
		{curveB, nil, nil},
		{list(5), rowR, rowR},
		{list(0), rowR, list(0, 0, 0, 0, 0, 0)},
		{curveB, list(9, 0, 0, 0, 0, 0), list(0, 2, 2, 0, 2, 2)},
		{curveB, list(0, 0, 4, 0, 0), list(0, 0, 0, 2, 2)},
		{curveB, list(1, 0, 1, 0, 0), list(0, 1, 0, 1, 0)},
		{list(100), long(60, 10000), long(60, 100)},
		{list(7, 100), list(0, 10000, 0, 0, 0), list(0, 7, 93, 7, 93)},
	} {
		if added, e := lag.Added(x.curve, x.came); !slices.Equal(added, x.added) || e != api.OK {
			t.Error(i, added, e)
		}
	}
}

// P2.5
func TestSeen(t *testing.T) {
	for i, x := range []struct {
		came, added   []int64
		waiting, late int64
		e             api.Errno
	}{
		{rowR, list(0, 2, 2, 0, 2, 2), 3, 2, api.OK},
		{rowR, rowR, 0, 0, api.OK},
		{nil, nil, 0, 0, api.OK},
		{list(0, 0), list(0, 0), 0, 0, api.OK},
		{list(1, 0, 0, 0, 0), list(0, 0, 0, 0, 1), 1, 4, api.OK},
		{list(5, 5, 0, 0), list(0, 0, 0, 10), 10, 3, api.OK},
		{list(1, 9, 0, 0), list(0, 1, 9, 0), 9, 1, api.OK},
		{append(list(10000), long(59, 0)...), append(long(59, 0), 10000), 10000, 59, api.OK},
		{long(60, 10000), long(60, 10000), 0, 0, api.OK},
		{rowR, list(0, 2, 2, 0, 2, 1), 0, 0, api.ErrLag},
		{list(1), list(0), 0, 0, api.ErrLag},
		{rowR, list(4, 0, 0, 3, 1, 0), 0, 0, api.ErrSum},
		{list(1, 1, 1), list(0, 3, 0), 0, 0, api.ErrSum},
		{list(1, 1, 1), list(2, 0, 0), 0, 0, api.ErrSum}, // before ErrLag
		{rowR, nil, 0, 0, api.ErrEqual},
		{nil, list(1), 0, 0, api.ErrEqual}, // before ErrSum
		{list(1, 0), list(0), 0, 0, api.ErrEqual},
	} {
		if waiting, late, e := lag.Seen(x.came, x.added); waiting != x.waiting || late != x.late || e != x.e {
			t.Error(i, waiting, late, e)
		}
	}
}

// P2.6, P2.7
func TestBounds(t *testing.T) {
	slow := list(0, 0, 0, 0, 0, 6)
	for i, x := range []struct {
		curve      []int64
		chain      [][]int64
		wait, late int64
		behind     []int64
		e          api.Errno
	}{
		{curveA, chain(curveB), 3, 2, list(4, 5, 7), api.OK},
		{curveA, chain(curveB, curveB), 4, 3, list(5, 7, 8), api.OK},
		{curveA, chain(list(5)), 0, 0, list(3, 4, 4), api.OK},
		{list(0, 50), chain(list(0)), 0, 0, list(0, 0), api.OK}, // nothing ever comes
		{list(0), chain(list(0), list(0), list(0)), 0, 0, list(0), api.OK},
		{list(1), chain(slow, slow, slow), 15, 15, list(16), api.OK},
		{list(1, 1, 1, 1, 1, 6), chain(list(0, 0, 0, 0, 1), list(0, 0, 0, 0, 1), list(0, 0, 0, 0, 1)), 3, 12, list(3, 3, 3, 4, 4, 4), api.OK},
		{list(100), chain(list(100)), 0, 0, list(100), api.OK},
		{long(6, 100), chain(list(0, 0, 0, 0, 0, 100)), 100, 5, list(100, 200, 200, 200, 200, 200), api.OK},
		{list(1, 1), chain(list(0, 1)), 1, 1, list(1, 2), api.OK},
		{list(3, 4, 5), chain(curveB), 0, 0, nil, api.ErrLag},
		{list(1), chain(list(9), list(0)), 0, 0, nil, api.ErrLag},
		{list(1), chain(list(0), list(9)), 0, 0, nil, api.ErrLag},
		{list(1), chain(list(0, 1)), 0, 0, nil, api.ErrLag},
		{list(100), chain(long(6, 100)), 0, 0, nil, api.ErrLag},
		{list(2, 2, 2, 3), chain(list(0, 0, 0, 0, 3)), 0, 0, nil, api.ErrLag}, // 2 by 3 against 3 by 5
	} {
		wait, e1 := lag.Wait(x.curve, x.chain)
		late, e2 := lag.Late(x.curve, x.chain)
		behind, e3 := lag.Behind(x.curve, x.chain)
		if wait != x.wait || late != x.late || !slices.Equal(behind, x.behind) || e1 != x.e || e2 != x.e || e3 != x.e {
			t.Error(i, wait, late, behind, e1, e2, e3)
		}
	}
}

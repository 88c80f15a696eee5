package lag

import (
	"slices"

	"quinella/api"
)

// totals is how many impulses there are up to each turn, from the turn 0 on.
type totals []int64

// tally is what came and what was added, up to as many turns each.
type tally struct {
	came, added totals
}

// checkRows returns the error of the first row that has one.
func checkRows(rows ...[]int64) api.Errno {
	for _, row := range rows {
		if len(row) > api.MaxLagRow {
			return api.ErrMany
		}
		if !within(0, api.MaxLagFull, row...) {
			return api.ErrRange
		}
	}
	return api.OK
}

// tallyOf returns the tally of two rows, or the error of them.
func tallyOf(came, added []int64) (tally, api.Errno) {
	if e := checkRows(came, added); e != api.OK {
		return tally{}, e
	}
	if len(came) != len(added) {
		return tally{}, api.ErrEqual
	}
	t := tally{came: totalsOf(came), added: totalsOf(added)}
	if !t.came.reach(t.added) {
		return tally{}, api.ErrSum
	}
	return t, api.OK
}

// waiting returns how many impulses wait after a turn.
func (t tally) waiting(turn int) int64 { return t.came[turn] - t.added[turn] }

// late returns by how many turns what came up to a turn is late.
func (t tally) late(turn int) int64 {
	passed := slices.IndexFunc(t.added[turn:], func(added int64) bool { return added >= t.came[turn] })
	return int64(passed)
}

func totalsOf(row []int64) totals {
	t := make(totals, len(row)+1)
	t.fill(row)
	return t
}

// fill puts in how many impulses of a row there are up to each of its turns.
func (t totals) fill(row []int64) {
	for turn, n := range row {
		t[turn+1] = t[turn] + n
	}
}

// reach reports whether no total of as many others is greater.
func (t totals) reach(others totals) bool {
	for turn, other := range others {
		if t[turn] < other {
			return false
		}
	}
	return true
}

// row returns the row that has these totals.
func (t totals) row() []int64 {
	turns := len(t) - 1
	var room [api.MaxLagRow]int64
	grown := room[:0:turns]
	for turn := range turns {
		grown = append(grown, t[turn+1]-t[turn])
	}
	row := make([]int64, turns)
	copy(row, grown)
	return row
}

// breaks returns the first turns at which a row breaks the curve, and how many they are; ok is false if it keeps it.
func (s source) breaks(row []int64) (first, turns int, ok bool) {
	most := s.most(len(row))
	sums := make(totals, len(row)+1)
search:
	for from := range row {
		clear(sums) // there are fewer of them than from the turn before on
		sums.fill(row[from:])
		for long, sum := range sums {
			if sum > most[long] {
				first, turns, ok = from, long, true
				break search
			}
		}
	}
	return first, turns, ok
}

// added returns the least that is added of what came, up to each turn.
func (s shaft) added(came totals) totals {
	least := make(totals, len(came))
	for turn := range least {
		least[turn] = best(cuts(turn, 0, turn), func(c cut) int64 {
			return came[c.rest] + s.least(c.part)
		}, less)
	}
	return least
}

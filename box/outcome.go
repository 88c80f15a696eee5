package box

import (
	"iter"
	"math/bits"

	"quinella/api"
)

// place is an outcome as a key: no list can be one.
type place struct {
	winners [api.MaxBoxRaces]int
}

// placeOf returns the place of an outcome.
func placeOf(outcome []int) place {
	var at place
	copy(at.winners[:], outcome)
	return at
}

// inBoth returns how many outcomes are in both of two boxes.
func inBoth(one, two []int) int64 {
	many := 1
	for race, set := range one {
		many *= bits.OnesCount(uint(set & two[race]))
	}
	return int64(many)
}

// size returns how many outcomes a box has.
func size(box []int) int64 { return inBoth(box, box) }

// members returns the runners of a set, increasing.
func members(set int) []int {
	var runners []int
	for ; set != 0; set &= set - 1 {
		runners = append(runners, bits.TrailingZeros(uint(set)))
	}
	return runners
}

// outcomes yields the outcomes of a box, in lexicographic order.
func outcomes(box []int) iter.Seq[[]int] {
	var runners [][]int
	for _, set := range box {
		runners = append(runners, members(set))
	}
	return lists(runners)
}

// lists yields all lists that have one number of each row. Numbers that come first in a row come first here.
func lists(rows [][]int) iter.Seq[[]int] {
	return func(yield func([]int) bool) { goOn(nil, rows, yield) }
}

// goOn yields the lists that begin with this one, and returns whether more are wanted. Several of them go on from it, so that none may use the memory behind it.
func goOn(list []int, rows [][]int, yield func([]int) bool) bool {
	long := len(list)
	if long == len(rows) {
		return yield(list)
	}
	for _, number := range rows[long] {
		if !goOn(append(list[:long:long], number), rows, yield) {
			return false
		}
	}
	return true
}

// best returns the first one of several, of which there has to be one at least, that has the most.
func best[T any](several []T, has func(T) int64) T {
	found := several[0]
	for _, x := range several[1:] {
		if has(x) > has(found) {
			found = x
		}
	}
	return found
}

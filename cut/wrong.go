package cut

import (
	"math/bits"

	"quinella/api"
)

// set is counters, a bit for each of them.
type set uint

const noCounter set = 0

func (s set) lacks(counter int) bool { return s>>counter&1 == 0 }

// list returns the counters of a set, increasing.
func (s set) list() []int {
	var counters []int
	for counter := range api.MaxCutCounters {
		if !s.lacks(counter) {
			counters = append(counters, counter)
		}
	}
	return counters
}

// fewest returns all sets of the fewest counters that can be wrong. There is one, as a hall without counters agrees.
func fewest(h api.CutHall) []set {
	var found []set
	for many := 0; len(found) == 0; many++ {
		for wrong := range set(1) << len(h.Counters) {
			if bits.OnesCount(uint(wrong)) == many && sheetWithout(h, wrong).agrees() {
				found = append(found, wrong)
			}
		}
	}
	return found
}

// kind returns the kind of a counter, of the fewest that can be wrong.
func kind(counter int, fewest []set) int {
	in := 0
	for _, wrong := range fewest {
		if !wrong.lacks(counter) {
			in++
		}
	}
	switch in {
	case 0:
		return api.CutNever
	case len(fewest):
		return api.CutAlways
	}
	return api.CutMay
}

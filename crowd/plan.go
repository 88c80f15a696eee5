package crowd

import (
	"slices"

	"quinella/api"
)

// counts are numbers of people, for each minute; that of 0 is not used.
type counts [api.MaxCrowdMinutes + 1]int

// plan returns a plan, if there is one. Those with the least Until take their first free minute before the others. No plan is lost by that: if one gives this minute to somebody whose turn is later, who has time for longer, the two can exchange their minutes.
func (f floor) plan() ([]int64, bool) {
	plan := make([]int64, len(f.People))
	var there counts
people:
	for _, next := range f.slips() {
		for minute := f.last(next.person); minute <= next.until; minute++ {
			if there[minute] < f.machines {
				there[minute]++
				plan[next.person] = minute
				continue people
			}
		}
		return nil, false
	}
	return plan, true
}

// hasPlan reports whether there is a plan.
func (f floor) hasPlan() bool {
	_, isPlan := f.plan()
	return isPlan
}

// fewest returns the least number of machines for which there is a plan.
func (f floor) fewest() int64 {
	// As many machines as people are always enough, so that the search ends.
	f.machines = 0
	for !f.hasPlan() {
		f.machines++
	}
	return int64(f.machines)
}

// greatest returns the greatest number up to hi that is possible, or lo.
func greatest[N int | int64](lo, hi N, isPossible func(N) bool) N {
	for hi > lo && !isPossible(hi) {
		hi--
	}
	return hi
}

// slips returns the slips of all people who can come in time, in their order.
func (f floor) slips() []slip {
	var list []slip
	for person := range f.People {
		if f.canCome(person) {
			list = append(list, f.slipOf(person))
		}
	}
	slices.SortFunc(list, slip.compare)
	return list
}

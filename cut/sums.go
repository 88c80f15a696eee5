package cut

import "quinella/api"

// far stands for no way. It is more than the sum of any way that is looked at, whatever is taken off it by steps back.
const far = api.MaxNumber

// sums are those of ways, by the places to which they lead.
type sums [api.MaxCutWindows + 1]int64

// next returns the least sums of ways that are one step longer at most.
func (s sheet) next(before sums) sums {
	after := before
	for ends, l := range s.legs {
		after[ends.to] = min(after[ends.to], before[ends.from]+l.cost)
	}
	return after
}

// leastSums returns the least sums of ways from a place; about far where none leads to. If there is a ring, sums get less again and
// again, and agree is false. Otherwise no way with a least sum needs more steps than there are windows.
func (s sheet) leastSums(from int) (before sums, agree bool) {
	for place := range before {
		before[place] = far
	}
	before[from] = 0
	for range s.Windows + 1 {
		after := s.next(before)
		if after == before {
			return before, true
		}
		before = after
	}
	return before, false
}

func (s sheet) agrees() bool {
	_, agree := s.leastSums(0)
	return agree
}

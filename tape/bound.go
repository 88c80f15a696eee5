package tape

import (
	"slices"

	"quinella/api"
)

// least returns the first one of several, of which there has to be one at least, of which no other one has less.
func least[T any](several []T, has func(T) int) T {
	found := several[0]
	for _, one := range several[1:] {
		if has(one) < has(found) {
			found = one
		}
	}
	return found
}

// further returns the places behind this one, by the windows of which some tape has the next impulse.
func (r reel) further(at place) []place {
	var places []place
	for _, behind := range r.onward(at) {
		if behind != at {
			places = append(places, behind)
		}
	}
	return places
}

// table returns the fewest letters that have all that is left of the tapes, for each place.
func (r reel) table() []int {
	table := make([]int, r.size())
	number := func(at place) int { return table[r.index(at)] }
	for index, at := range slices.Backward(slices.Collect(r.places())) {
		if at != r.last {
			table[index] = number(least(r.further(at), number)) + 1
		}
	}
	return table
}

// isRight reports whether a table, with a number for each place, is right.
func (r reel) isRight(table []int) bool {
	for at := range r.places() {
		for _, behind := range r.onward(at) {
			if table[r.index(at)] > table[r.index(behind)]+1 {
				return false
			}
		}
	}
	return table[r.index(r.last)] == 0
}

// fewest returns the fewest impulses.
func (r reel) fewest() int { return r.table()[0] }

// wrong returns the fewest tapes that can be wrong for a length.
func (r reel) wrong(long int) []int {
	areTooMany := func(wrong []int) bool { return r.without(wrong).fewest() > long }
	canBeWrong := slices.DeleteFunc(r.choices(nil, 0), areTooMany)
	return least(canBeWrong, func(wrong []int) int { return len(wrong) })
}

// without returns the reel without some of the tapes.
func (r reel) without(wrong []int) reel {
	var others []string
	for tape, letters := range r.Tapes {
		if !slices.Contains(wrong, tape) {
			others = append(others, letters)
		}
	}
	return wind(api.TapeSet{Windows: r.Windows, Tapes: others})
}

// choices returns this list, and all those that go on from it with tapes from the first one on, increasing, in lexicographic order. Several go on from one list, so that none may use the memory behind it.
func (r reel) choices(list []int, first int) [][]int {
	all, long := [][]int{list}, len(list)
	for tape := first; tape < len(r.Tapes); tape++ {
		all = append(all, r.choices(append(list[:long:long], tape), tape+1)...)
	}
	return all
}

package crowd

import (
	"cmp"
	"iter"
	"maps"
)

// slip is what a person holds who waits.
type slip struct {
	until  int64
	person int
}

// slipOf returns the slip of a person.
func (f floor) slipOf(person int) slip { return slip{f.People[person].Until, person} }

// compare is negative if s is served before the other slip.
func (s slip) compare(other slip) int {
	return cmp.Or(cmp.Compare(s.until, other.until), cmp.Compare(s.person, other.person))
}

// first returns the first one of all, or the zero value if there is none.
func first[T any](all iter.Seq[T], compare func(a, b T) int) T {
	var found T
	isFound := false
	for one := range all {
		if !isFound || compare(one, found) < 0 {
			found, isFound = one, true
		}
	}
	return found
}

// serve returns in which minute each person is served who comes as a truth says, and how many are shut out.
func (f floor) serve(truth []int64) ([]int64, int) {
	served, shut := make([]int64, len(f.People)), 0
	waiting := map[slip]bool{}
	comes := func(person int, minute int64) bool {
		return truth[person] == minute && minute <= f.People[person].Until
	}
	for minute, come := range f.minutes(comes) {
		for _, person := range come {
			waiting[f.slipOf(person)] = true
		}
		for range min(f.machines, len(waiting)) {
			next := first(maps.Keys(waiting), slip.compare)
			served[next.person] = minute
			delete(waiting, next)
		}
		shut += shutOut(waiting, minute)
	}
	return served, shut
}

// shutOut takes away those who have time until this minute alone, and returns how many they are.
func shutOut(waiting map[slip]bool, minute int64) int {
	many := len(waiting)
	maps.DeleteFunc(waiting, func(s slip, _ bool) bool { return s.until == minute })
	return many - len(waiting)
}

package turn

import (
	"cmp"
	"slices"

	"quinella/api"
)

// table tells which states of its hall are safe, and how long the others last.
type table struct {
	hall
	safe  map[place]int // of each safe state, how many visits lead to safe ones
	lasts map[place]int // of each doomed state, how many turns its longest row has
}

// tableOf begins with all states in which nothing is full at once as safe ones, and takes away those from which no visit leads to a safe one any more. As they go in the order of how long they last, the last visit of a state that goes is one that lasts longest.
func tableOf(h api.TurnHall) table {
	t := table{hall: hall{h}, safe: map[place]int{}, lasts: map[place]int{}}
	var doomed []place
	for p := range t.places() {
		if _, ok := t.pull(p, everyone); ok {
			t.safe[p] = len(t.Threads)
		} else {
			t.lasts[p] = 0
			doomed = append(doomed, p)
		}
	}
	for at := 0; at < len(doomed); at++ {
		doomed = append(doomed, t.condemn(doomed[at])...)
	}
	return t
}

// tableAt returns the table of a hall and the place of a state, or the error of one of them.
func tableAt(h api.TurnHall, state []int) (table, place, api.Errno) {
	if e := checkState(h, state); e != api.OK {
		return table{}, place{}, e
	}
	return tableOf(h), placeOf(state), api.OK
}

// condemn takes a doomed state off those that lead to it, and returns which of these are doomed now.
func (t table) condemn(p place) []place {
	var doomed []place
	for earlier := range t.before(p) {
		t.safe[earlier]--
		if t.safe[earlier] == 0 {
			delete(t.safe, earlier)
			t.lasts[earlier] = t.lasts[p] + 1
			doomed = append(doomed, earlier)
		}
	}
	return doomed
}

func (t table) isSafe(p place) bool { return t.safe[p] > 0 }

// next returns the windows whose visit leads to a safe state when all pull.
func (t table) next(p place) []int {
	var windows []int
	for w, after := range t.visits(p) {
		if t.isSafe(after) {
			windows = append(windows, w)
		}
	}
	return windows
}

// longest returns the first one of the longest rows from a doomed state.
func (t table) longest(p place) []int {
	var row []int
turns:
	for left := t.lasts[p]; left > 0; left-- {
		for w, after := range t.visits(p) {
			if t.lasts[after] == left-1 {
				row = append(row, w)
				p = after
				continue turns
			}
		}
	}
	return row
}

// groups returns all groups of windows: smaller ones first, those of a size in lexicographic order.
func (h hall) groups() []group {
	list := []group{nil}
	for w := range h.screws() {
		for _, g := range list {
			list = append(list, append(g[:len(g):len(g)], w))
		}
	}
	slices.SortFunc(list, func(a, b group) int {
		return cmp.Or(cmp.Compare(len(a), len(b)), slices.Compare(a, b))
	})
	return list
}

// wait returns the first group that is enough to wait for a safe state, and whether there is one.
func (t table) wait(p place) (group, bool) {
	return first(t.groups(), func(waiting group) bool {
		pulled, ok := t.pull(p, waiting.lacks)
		if !ok {
			return false
		}
		for w := range t.screws() {
			if after, _ := pulled.visited(w); t.isSafe(after) {
				return true
			}
		}
		return false
	})
}

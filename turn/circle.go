package turn

import (
	"slices"

	"quinella/api"
)

// walk is a row, and where it leads.
type walk struct {
	at  place
	row []int
}

// on returns the walk that goes on with a visit. The row is cut at its capacity, so that walks which go on from the same one do not write over one another.
func (k walk) on(window int, at place) walk {
	long := len(k.row)
	return walk{at: at, row: append(k.row[:long:long], window)}
}

// isCircle reports whether a row can be repeated again and again. It can if it leads twice to the same state, from which it goes on as before; a window that it leaves out keeps the two states different.
func (h hall) isCircle(row []int) bool {
	once, done := h.play(h.empty(), row)
	if done < len(row) {
		return false
	}
	twice, done := h.play(once, row)
	return done == len(row) && twice == once
}

// circle returns a shortest circle; the empty state has to be safe. A circle goes round among safe states and visits all windows, thus a shortest one leads back to some state in which a window, whichever it is, holds nothing.
func (t table) circle() []int {
	var circle []int
	limit := api.MaxTurnStates
	seen := map[place]bool{}
	window := slices.Index(t.Threads, slices.Max(t.Threads)) // leaves the fewest states to begin with
	for p := range t.places() {
		if p.held[window] > 0 || !t.isSafe(p) {
			continue
		}
		if row, ok := t.loop(p, limit, seen); ok {
			circle = make([]int, len(row))
			copy(circle, row)
			limit = len(row) - 1
		}
	}
	return circle
}

// loop returns a shortest row from a safe state back to it, and whether there is one with at most limit visits. It clears the marks of the search before.
func (t table) loop(start place, limit int, seen map[place]bool) ([]int, bool) {
	clear(seen)
	walks := []walk{{at: start}}
	for at := 0; at < len(walks); at++ {
		k := walks[at]
		if len(k.row) >= limit {
			return nil, false
		}
		for w, after := range t.visits(k.at) {
			if after == start {
				return k.on(w, after).row, true
			}
			if t.isSafe(after) && !seen[after] {
				seen[after] = true
				walks = append(walks, k.on(w, after))
			}
		}
	}
	return nil, false
}

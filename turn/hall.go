package turn

import (
	"iter"
	"slices"

	"quinella/api"
)

// screws is how many impulses each screw holds; those that a hall does not have hold none.
type screws [api.MaxTurnWindows]int

// place is a state of a hall with so many windows. It is a value, so that places can be compared, and be keys.
type place struct {
	windows int
	held    screws
}

// hall is a valid hall.
type hall struct {
	api.TurnHall
}

// group is some windows.
type group []int

func (g group) has(window int) bool { return slices.Contains(g, window) }

func (g group) lacks(window int) bool { return !g.has(window) }

func everyone(int) bool { return true }

// within reports whether all numbers are from lo to hi.
func within[T int | int64](lo, hi T, numbers ...T) bool {
	return !slices.ContainsFunc(numbers, func(n T) bool { return n < lo || n > hi })
}

// first returns the first element that is good, and whether there is one.
func first[T any](list []T, good func(T) bool) (T, bool) {
	for _, x := range list {
		if good(x) {
			return x, true
		}
	}
	var none T
	return none, false
}

// checkState returns the error of a hall, or else of a state of it.
func checkState(h api.TurnHall, state []int) api.Errno {
	if e := CheckHall(h); e != api.OK {
		return e
	}
	if len(state) != len(h.Threads) {
		return api.ErrEqual
	}
	for w, threads := range (hall{h}).screws() {
		if !within(0, threads, state[w]) {
			return api.ErrRange
		}
	}
	return api.OK
}

// placeOf returns the place of a state that is valid.
func placeOf(state []int) place {
	p := place{windows: len(state)}
	copy(p.held[:], state)
	return p
}

// list returns the state of a place, in memory of its own.
func (p place) list() []int {
	state := make([]int, p.windows)
	copy(state, p.held[:])
	return state
}

// visited returns the place after a visit of a window, and how many impulses the visit adds.
func (p place) visited(window int) (place, int) {
	added := p.held[window]
	p.held[window] = 0
	return p, added
}

// empty returns the place of the empty state.
func (h hall) empty() place { return place{windows: len(h.Threads)} }

// screws yields the windows, each with how many impulses its screw can hold.
func (h hall) screws() iter.Seq2[int, int] { return slices.All(h.Threads) }

// areWindows reports whether all numbers are windows.
func (h hall) areWindows(numbers ...int) bool { return within(0, len(h.Threads)-1, numbers...) }

// pull returns the place after some windows have pulled; ok is false if a screw is full.
func (h hall) pull(p place, pulls func(window int) bool) (after place, ok bool) {
	for w, threads := range h.screws() {
		if !pulls(w) {
			continue
		}
		if p.held[w] == threads {
			return place{}, false
		}
		p.held[w]++
	}
	return p, true
}

// turn returns the place after a turn, and how many impulses it adds; ok is false if a screw is full.
func (h hall) turn(p place, pulls func(window int) bool, visit int) (after place, added int, ok bool) {
	pulled, ok := h.pull(p, pulls)
	if !ok {
		return place{}, 0, false
	}
	after, added = pulled.visited(visit)
	return after, added, true
}

// play returns the place after a row, and how many of its turns were done before a screw was full.
func (h hall) play(p place, row []int) (place, int) {
	for done, w := range row {
		next, _, ok := h.turn(p, everyone, w)
		if !ok {
			return place{}, done
		}
		p = next
	}
	return p, len(row)
}

// visits yields each window with the place to which its visit leads when all pull. It yields nothing if a screw is full then.
func (h hall) visits(p place) iter.Seq2[int, place] {
	return func(yield func(int, place) bool) {
		pulled, ok := h.pull(p, everyone)
		if !ok {
			return
		}
		for w := range h.screws() {
			next, _ := pulled.visited(w)
			if !yield(w, next) {
				return
			}
		}
	}
}

// before yields the places from which a visit leads to p when all pull.
func (h hall) before(p place) iter.Seq[place] {
	return func(yield func(place) bool) {
		for w, threads := range h.screws() {
			earlier, ok := p.unpulled(w)
			if !ok {
				continue
			}
			// The visit hides how many impulses its screw held.
			for held := range threads {
				earlier.held[w] = held
				if !yield(earlier) {
					return
				}
			}
		}
	}
}

// unpulled returns a place before p in which all windows but the one that was visited hold one impulse less; ok is false if p does not come from a visit of that window.
func (p place) unpulled(visit int) (earlier place, ok bool) {
	for w := range p.windows {
		if (p.held[w] == 0) != (w == visit) {
			return place{}, false
		}
		if w != visit {
			p.held[w]--
		}
	}
	return p, true
}

// places yields all states: each one behind those that are less full.
func (h hall) places() iter.Seq[place] {
	return func(yield func(place) bool) {
		p := h.empty()
		for yield(p) {
			p = h.following(p)
			if p.held == (screws{}) {
				return
			}
		}
	}
}

// following counts on by one, the last window fastest; behind the fullest state comes the empty one.
func (h hall) following(p place) place {
	for w, threads := range slices.Backward(h.Threads) {
		if p.held[w] < threads {
			p.held[w]++
			return p
		}
		p.held[w] = 0
	}
	return p
}

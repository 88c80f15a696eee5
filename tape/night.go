package tape

import (
	"iter"

	"quinella/api"
)

// state is what decides how a night can go on: its place, and how many letters are to come.
type state struct {
	at   place
	left int
}

// show is a reel with its nights of a length.
type show struct {
	reel
	start  state
	nights map[state]int64 // of each state that leads to nights, how many go on from it
}

// showOf returns the show of tapes, or the error that they and a length have before all others.
func showOf(t api.TapeSet, long int) (show, api.Errno) {
	r, e := reelFor(t, long)
	if e != api.OK {
		return show{}, e
	}
	s := show{reel: r, start: state{left: long}, nights: map[state]int64{}}
	s.explore(s.start)
	for from, many := range s.nights {
		if many == 0 {
			delete(s.nights, from)
		}
	}
	return s, api.OK
}

// goesOn yields the windows in their order, each with the state behind one more letter, if one is to come.
func (s show) goesOn(from state) iter.Seq2[byte, state] {
	return func(yield func(byte, state) bool) {
		if from.left == 0 {
			return
		}
		for window, behind := range s.onward(from.at) {
			if !yield(window, state{behind, from.left - 1}) {
				return
			}
		}
	}
}

// explore returns how many nights go on from a state, and keeps what it learns, also of states that lead nowhere, lest it looks at them again.
func (s show) explore(from state) int64 {
	if many, isKnown := s.nights[from]; isKnown {
		return many
	}
	var many int64
	if from == (state{at: s.last}) {
		many = 1 // a night that is whole goes on in one way: it ends
	}
	for _, to := range s.goesOn(from) {
		many += s.explore(to)
	}
	s.nights[from] = many
	return many
}

// leads reports whether nights go on from a state.
func (s show) leads(from state) bool {
	_, isKnown := s.nights[from]
	return isKnown
}

// many returns how many nights there are.
func (s show) many() int64 { return s.nights[s.start] }

// night returns the night before which index others are.
func (s show) night(index int64) string {
	night := make([]byte, 0, s.start.left)
	from := s.start
letters:
	for range s.start.left {
		for window, to := range s.goesOn(from) {
			if index < s.nights[to] {
				night = append(night, window)
				from = to
				continue letters
			}
			index -= s.nights[to]
		}
	}
	return string(night)
}

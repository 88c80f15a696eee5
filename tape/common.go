package tape

import (
	"iter"

	"quinella/api"
)

// past returns the place behind the next impulse of a window on each tape, and whether each tape has one.
func (r reel) past(at place, window byte) (place, bool) {
tapes:
	for tape, letters := range r.Tapes {
		for at[tape] < len(letters) {
			at[tape]++
			if letters[at[tape]-1] == window {
				continue tapes
			}
		}
		return place{}, false
	}
	return at, true
}

// shared yields all strings that are what is left of each tape, in lexicographic order. They lie in one room: each is gone when the next one comes.
func (r reel) shared() iter.Seq[[]byte] {
	return func(yield func([]byte) bool) {
		r.share(make([]byte, api.MaxTapeLong), 0, place{}, yield)
	}
}

// share yields those that begin with so many letters of the room, which lead to a place, and returns whether more are wanted.
func (r reel) share(room []byte, long int, at place, yield func([]byte) bool) bool {
	if !yield(room[:long:long]) {
		return false
	}
	for window := range r.onward(at) {
		behind, isThere := r.past(at, window)
		if !isThere {
			continue
		}
		room[long] = window
		if !r.share(room, long+1, behind, yield) {
			return false
		}
	}
	return true
}

// common returns the first one of the longest strings that are what is left of each tape.
func (r reel) common() string {
	var longest []byte
	for letters := range r.shared() {
		if len(letters) > len(longest) {
			longest = make([]byte, len(letters))
			copy(longest, letters)
		}
	}
	return string(longest)
}

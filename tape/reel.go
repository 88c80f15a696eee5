package tape

import (
	"iter"
	"slices"

	"quinella/api"
)

// place is how many impulses of each tape are over; those that a reel does not have are at 0.
type place [api.MaxTapes]int

// reel is tapes, and the last place, at which all of them are over.
type reel struct {
	api.TapeSet
	last place
}

// reelOf returns the reel of tapes, or the error of CheckSet.
func reelOf(t api.TapeSet) (reel, api.Errno) {
	if e := CheckSet(t); e != api.OK {
		return reel{}, e
	}
	return wind(t), api.OK
}

// reelFor returns the reel of tapes, or the error that they and a length have before all others.
func reelFor(t api.TapeSet, long int) (reel, api.Errno) {
	r, e := reelOf(t)
	if e != api.OK {
		return reel{}, e
	}
	if !within(0, api.MaxTapeNight, long) {
		return reel{}, api.ErrRange
	}
	return r, api.OK
}

// wind returns the reel of tapes, which need not be any.
func wind(t api.TapeSet) reel {
	r := reel{TapeSet: t}
	for tape, letters := range t.Tapes {
		r.last[tape] = len(letters)
	}
	return r
}

// within reports whether all numbers are from lo to hi.
func within[N int | int64 | byte](lo, hi N, numbers ...N) bool {
	return !slices.ContainsFunc(numbers, func(n N) bool { return n < lo || n > hi })
}

// areWindows reports whether all letters are those of windows.
func (r reel) areWindows(letters ...byte) bool {
	return within('a', 'a'+byte(r.Windows-1), letters...)
}

// isForeign reports whether a string has a letter that is not that of a window.
func (r reel) isForeign(letters string) bool { return !r.areWindows([]byte(letters)...) }

// areImpulses reports whether all of them are impulses.
func (r reel) areImpulses(several ...api.TapeImpulse) bool {
	isNone := func(x api.TapeImpulse) bool {
		return !r.areWindows(x.Window) || !within(1, api.MaxTapeNight, x.Nth)
	}
	return !slices.ContainsFunc(several, isNone)
}

// behind returns the place behind another one, by a window.
func (r reel) behind(at place, window byte) place {
	for tape, letters := range r.Tapes {
		if at[tape] < len(letters) && letters[at[tape]] == window {
			at[tape]++
		}
	}
	return at
}

// onward yields the windows in their order, each with the place behind.
func (r reel) onward(at place) iter.Seq2[byte, place] {
	return func(yield func(byte, place) bool) {
		for number := range r.Windows {
			window := byte('a' + number)
			if !yield(window, r.behind(at, window)) {
				return
			}
		}
	}
}

// places yields all places, in lexicographic order.
func (r reel) places() iter.Seq[place] {
	return func(yield func(place) bool) {
		at := place{}
		for yield(at) && at != r.last {
			at = r.after(at)
		}
	}
}

// after returns the next one of all places; there has to be one.
func (r reel) after(at place) place {
	tape := len(at) - 1
	for at[tape] == r.last[tape] {
		at[tape] = 0
		tape--
	}
	at[tape]++
	return at
}

// index returns how many places come before this one.
func (r reel) index(at place) int {
	index := 0
	for tape, over := range at {
		index = index*(r.last[tape]+1) + over
	}
	return index
}

// size returns how many places there are.
func (r reel) size() int { return r.index(r.last) + 1 }

// has reports whether a night has all tapes.
func (r reel) has(night string) bool {
	at := place{}
	for _, window := range []byte(night) {
		at = r.behind(at, window)
	}
	return at == r.last
}

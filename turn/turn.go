// Package turn is layer 1: see shared/doc/01-turn.md.
package turn

import "quinella/api"

// CheckHall reports whether a hall is valid. (P1.1)
func CheckHall(h api.TurnHall) api.Errno {
	if !within(1, api.MaxTurnWindows, len(h.Threads)) {
		return api.ErrMany
	}
	if !within(1, api.MaxTurnThreads, h.Threads...) {
		return api.ErrRange
	}
	states := 1
	for _, threads := range h.Threads {
		states *= threads + 1
	}
	if states > api.MaxTurnStates {
		return api.ErrArg
	}
	return api.OK
}

// Turn does a turn. It returns the state after it, and how many impulses were added. (P1.2)
func Turn(h api.TurnHall, state, pulls []int, visit int) ([]int, int, api.Errno) {
	if e := checkState(h, state); e != api.OK {
		return nil, 0, e
	}
	x := hall{h}
	if !x.areWindows(pulls...) || !strictlyIncreasing(pulls) || !x.areWindows(visit) {
		return nil, 0, api.ErrArg
	}
	after, added, ok := x.turn(placeOf(state), group(pulls).has, visit)
	if !ok {
		return nil, 0, api.ErrTurn
	}
	return after.list(), added, api.OK
}

func strictlyIncreasing(list []int) bool {
	for i := 1; i < len(list); i++ {
		if list[i-1] >= list[i] {
			return false
		}
	}
	return true
}

// Play does the turns of a row, while all pull. It returns the state after them, and how many turns were done, also with ErrTurn. (P1.3)
func Play(h api.TurnHall, state, row []int) ([]int, int, api.Errno) {
	if e := checkState(h, state); e != api.OK {
		return nil, 0, e
	}
	x := hall{h}
	if len(row) > api.MaxTurnRow {
		return nil, 0, api.ErrMany
	}
	if !x.areWindows(row...) {
		return nil, 0, api.ErrArg
	}
	after, done := x.play(placeOf(state), row)
	if done < len(row) {
		return nil, done, api.ErrTurn
	}
	return after.list(), done, api.OK
}

// CheckCircle reports whether a list is a circle. (P1.4)
func CheckCircle(h api.TurnHall, circle []int) api.Errno {
	if e := CheckHall(h); e != api.OK {
		return e
	}
	x := hall{h}
	if !within(1, api.MaxTurnRow, len(circle)) {
		return api.ErrMany
	}
	if !x.areWindows(circle...) {
		return api.ErrArg
	}
	if !x.isCircle(circle) {
		return api.ErrTurn
	}
	return api.OK
}

// Circle returns a shortest circle. (P1.4)
func Circle(h api.TurnHall) ([]int, api.Errno) {
	if e := CheckHall(h); e != api.OK {
		return nil, e
	}
	t := tableOf(h)
	if !t.isSafe(t.empty()) {
		return nil, api.ErrTurn
	}
	return t.circle(), api.OK
}

// CheckDoom reports whether steps doom a state. (P1.5)
func CheckDoom(h api.TurnHall, state []int, steps []api.TurnStep) api.Errno {
	if e := checkState(h, state); e != api.OK {
		return e
	}
	if len(steps) > api.MaxTurnStates {
		return api.ErrMany
	}
	for _, s := range steps {
		if checkState(h, s.State) != api.OK || !within(1, api.MaxNumber, s.Left) {
			return api.ErrRange
		}
	}
	if !(hall{h}).doomedBy(placeOf(state), steps) {
		return api.ErrSum
	}
	return api.OK
}

// Doom returns steps that doom a state. (P1.5)
func Doom(h api.TurnHall, state []int) ([]api.TurnStep, api.Errno) {
	t, p, e := tableAt(h, state)
	if e != api.OK {
		return nil, e
	}
	if t.isSafe(p) {
		return nil, api.ErrNone
	}
	return t.steps(p), api.OK
}

// Next returns the windows that can be visited next. (P1.6)
func Next(h api.TurnHall, state []int) ([]int, api.Errno) {
	t, p, e := tableAt(h, state)
	if e != api.OK {
		return nil, e
	}
	if !t.isSafe(p) {
		return nil, api.ErrTurn
	}
	return t.next(p), api.OK
}

// Wait returns the windows that must not pull. (P1.7)
func Wait(h api.TurnHall, state []int) ([]int, api.Errno) {
	t, p, e := tableAt(h, state)
	if e != api.OK {
		return nil, e
	}
	waiting, ok := t.wait(p)
	if !ok {
		return nil, api.ErrTurn
	}
	return waiting, api.OK
}

// Lasts returns the longest row that is safe. (P1.8)
func Lasts(h api.TurnHall, state []int) ([]int, api.Errno) {
	t, p, e := tableAt(h, state)
	if e != api.OK {
		return nil, e
	}
	if t.isSafe(p) {
		return nil, api.ErrNone
	}
	return t.longest(p), api.OK
}

// Count returns how many states are safe. (P1.9)
func Count(h api.TurnHall) (int, api.Errno) {
	if e := CheckHall(h); e != api.OK {
		return 0, e
	}
	return len(tableOf(h).safe), api.OK
}

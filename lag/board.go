package lag

import "quinella/api"

// A best cut has fewer parts of other lengths than the one with the least rate has turns, thus at most 30 turns of them; and shafts that are not the slowest one have at most 35 turns each. So the most goes on in equal steps from 30 turns on, the least from 70 on, and the steps of both meet after 30 turns at most. As the least rises no less than the most does, the worst is among the turns before 100.
const (
	steady = (api.MaxLagShafts - 1) * (api.MaxLagTurns*api.MaxLagTurns - 1)
	period = api.MaxLagTurns * (api.MaxLagTurns - 1)
)

// latest is how late anything is at most: each curve is ahead of its rate, or behind it, by less turns than it has.
const latest = (api.MaxLagShafts + 1) * (api.MaxLagTurns - 1)

// board is a curve of what comes, with the most of it and the least that is added.
type board struct {
	source
	tally
}

// boardOf returns the board of a curve and a chain, or the error of them.
func boardOf(curve []int64, chain shafts) (board, api.Errno) {
	if e := CheckCurve(curve); e != api.OK {
		return board{}, e
	}
	if e := checkChain(chain); e != api.OK {
		return board{}, e
	}
	b := board{source: sourceOf(curve)}
	if slower(chain.rate(), b.rate()) {
		return board{}, api.ErrLag
	}
	const last = steady + period + latest
	b.tally = tally{came: b.most(last), added: chain.least(last)}
	return b, api.OK
}

// checkChain returns the error of a chain.
func checkChain(chain shafts) api.Errno {
	if !within(1, api.MaxLagShafts, int64(len(chain))) {
		return api.ErrMany
	}
	for _, curve := range chain {
		if e := CheckCurve(curve); e != api.OK {
			return e
		}
	}
	return api.OK
}

// worst returns the greatest value that there is for a number of turns.
func (b board) worst(value func(turns int) int64) int64 {
	if b.few == (few{}) {
		return 0 // nothing comes in any number of turns
	}
	return best(between(0, steady+period-1), value, greater)
}

// behind returns how many impulses can go on in a number of turns: all that wait, and those that come.
func (b board) behind(turns int) int64 {
	return b.worst(func(before int) int64 { return b.came[before+turns] - b.added[before] })
}

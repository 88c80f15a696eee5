package odds

import (
	"slices"

	"quinella/api"
)

// side is what quotes are on: a runner, or, with lay, against it.
type side struct {
	runner int
	lay    bool
}

// desk is a valid market, or one that is being checked.
type desk struct {
	api.OddsMarket
	best map[side]int // the index of the quote, of each side that has one, that leaves the fewest chances fair
}

// deskOf returns the desk of a market, or the error of it.
func deskOf(m api.OddsMarket) (desk, api.Errno) {
	d := desk{OddsMarket: m}
	if !within(1, api.MaxOddsField, int64(d.Runners)) || len(d.Quotes) > api.MaxOddsQuotes {
		return desk{}, api.ErrMany
	}
	if slices.ContainsFunc(d.Quotes, d.isStray) {
		return desk{}, api.ErrArg
	}
	if slices.ContainsFunc(d.Quotes, isBeyond) {
		return desk{}, api.ErrRange
	}
	d.best = d.bestQuotes()
	return d, api.OK
}

// deskWith returns the desk of a market on which there are stakes, or the error of one of them.
func deskWith(m api.OddsMarket, stakes []int64) (desk, api.Errno) {
	d, e := deskOf(m)
	if e != api.OK {
		return desk{}, e
	}
	if len(stakes) != len(d.Quotes) {
		return desk{}, api.ErrEqual
	}
	if !within(0, api.MaxNumber, stakes...) {
		return desk{}, api.ErrRange
	}
	return d, api.OK
}

func (d desk) isRunner(runner int) bool { return within(0, int64(d.Runners)-1, int64(runner)) }

// isStray reports whether a quote is on nobody who runs.
func (d desk) isStray(q api.OddsQuote) bool { return !d.isRunner(q.Runner) }

// isBeyond reports whether the odds of a quote are beyond the limits.
func isBeyond(q api.OddsQuote) bool {
	return !within(0, api.MaxOddsLong, q.Num) || !within(1, api.MaxOddsShort, q.Den)
}

// isStricter reports whether a quote leaves fewer chances fair than another one of its side.
func (d desk) isStricter(at, other int) bool {
	return !isFair(d.Quotes[at], bound(d.Quotes[other]))
}

func (d desk) bestQuotes() map[side]int {
	kept := map[side]int{}
	for at, q := range d.Quotes {
		s := side{runner: q.Runner, lay: q.Lay}
		if old, ok := kept[s]; ok {
			at = best(d.isStricter, old, at)
		}
		kept[s] = at
	}
	return kept
}

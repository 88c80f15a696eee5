package odds

import "maps"

// parts of a penny make whole whatever a quote wins: each Den of a quote, from 1 to 10, divides it. The net of 12 stakes of
// 2^40 pence at 190 to 1 is below 2^63 of them.
const parts = 2520

// net returns the net of stakes, in parts of a penny.
func (d desk) net(stakes []int64, runner int) int64 {
	var sum int64
	for at, q := range d.Quotes {
		won := -stakes[at] * parts
		if q.Runner == runner {
			won = stakes[at] * q.Num * (parts / q.Den)
		}
		if q.Lay {
			won = -won
		}
		sum += won
	}
	return sum
}

func (d desk) winSurely(stakes []int64) bool {
	for runner := range d.Runners {
		if d.net(stakes, runner) <= 0 {
			return false
		}
	}
	return true
}

// choices returns which of the best quotes can be meant. If no chances are fair, one of these is why: chances that all quotes
// on runners allow are below 1 together; those that all quotes against runners ask for are above 1 together; or a quote against
// a runner asks for more than one on it allows. Stakes on just these quotes win surely.
func (d desk) choices() []func(side) bool {
	list := []func(side) bool{
		func(s side) bool { return !s.lay },
		func(s side) bool { return s.lay },
	}
	for runner := range d.Runners {
		list = append(list, func(s side) bool { return s.runner == runner })
	}
	return list
}

// stake puts stakes on the best quotes that are meant, and nothing on the others. They are as many times as great as the bounds:
// then a stake and what is won with it, or would be lost with Lay, are the same sum for all of these quotes.
func (d desk) stake(stakes []int64, meant func(side) bool) {
	needed := maps.Clone(d.best)
	for s := range needed {
		if !meant(s) {
			delete(needed, s)
		}
	}
	times := int64(1)
	for _, at := range needed {
		times = multiple(times, bound(d.Quotes[at]).Den)
	}
	clear(stakes)
	for _, at := range needed {
		b := bound(d.Quotes[at])
		stakes[at] = times / b.Den * b.Num
	}
}

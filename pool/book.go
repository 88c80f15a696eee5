package pool

import (
	"slices"

	"quinella/api"
)

// alone is the Second of a bet on one runner.
const alone = -1

// book is a valid book, or one that is being checked.
type book struct {
	api.PoolBook
}

// spot is what a bet can be on: a runner, and another one or alone.
type spot struct {
	first, second int
}

// tally is how many units are bet on each runner, as First.
type tally [api.MaxPoolRunners]int64

// within reports whether all numbers are from lo to hi.
func within[T int | int64](lo, hi T, numbers ...T) bool {
	return !slices.ContainsFunc(numbers, func(n T) bool { return n < lo || n > hi })
}

// firstGreatest returns the first one of several, of which there has to be one at least, whose value is the greatest.
func firstGreatest[T any](several []T, value func(T) int64) T {
	found := several[0]
	for _, x := range several[1:] {
		if value(x) > value(found) {
			found = x
		}
	}
	return found
}

func strictlyIncreasing(list []int) bool {
	for i := 1; i < len(list); i++ {
		if list[i-1] >= list[i] {
			return false
		}
	}
	return true
}

// areRunners reports whether all numbers are runners.
func (b book) areRunners(numbers ...int) bool { return within(0, b.Runners-1, numbers...) }

// refuses reports whether a bet is not one of the book's Kind.
func (b book) refuses(bet api.PoolBet) bool {
	if !b.areRunners(bet.First) || !within(1, api.MaxPoolUnits, bet.Units) {
		return true
	}
	switch b.Kind {
	case api.PoolPair:
		return !b.areRunners(bet.Second) || bet.Second == bet.First
	case api.PoolBoth:
		return !b.areRunners(bet.Second) || bet.Second <= bet.First
	}
	return bet.Second != alone
}

// canScratch reports whether just these runners can be scratched.
func (b book) canScratch(runners []int) bool {
	return b.areRunners(runners...) && strictlyIncreasing(runners) && len(runners) <= b.Runners-2
}

func (b book) isScratched(runner int) bool { return slices.Contains(b.Scratched, runner) }

// racing returns the runners that are not scratched.
func (b book) racing() []int {
	var runners []int
	for runner := range b.Runners {
		if !b.isScratched(runner) {
			runners = append(runners, runner)
		}
	}
	return runners
}

// scratch returns the book in which a runner is scratched, too, in memory of its own.
func (b book) scratch(runner int) api.PoolBook {
	at, _ := slices.BinarySearch(b.Scratched, runner)
	scratched := append(b.Scratched[:at:at], runner)
	scratched = append(scratched, b.Scratched[at:]...)
	bets := make([]api.PoolBet, len(b.Bets))
	copy(bets, b.Bets)
	b.Bets, b.Scratched = bets, scratched
	return b.PoolBook
}

// named returns the spot that a bet names; ok is false if a runner of it is scratched.
func (b book) named(bet api.PoolBet) (s spot, ok bool) {
	return spot{bet.First, bet.Second}, !b.isScratched(bet.First) && !b.isScratched(bet.Second)
}

// count returns the units of all bets that are on a spot.
func (b book) count(on func(api.PoolBet) (spot, bool)) tally {
	var units tally
	for _, bet := range b.Bets {
		if s, ok := on(bet); ok {
			units[s.first] += bet.Units
		}
	}
	return units
}

// favourite returns the favourite. A bet with a scratched runner does not count for the other one either: it is on nothing.
func (b book) favourite() int {
	units := b.count(b.named)
	return firstGreatest(b.racing(), func(runner int) int64 { return units[runner] })
}

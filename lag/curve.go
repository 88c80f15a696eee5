package lag

import (
	"iter"
	"slices"

	"quinella/api"
)

// few is the most of a curve for 0, 1, 2, .. turns, for as many as a curve can have numbers. The most for more turns and the rate follow from it.
type few [api.MaxLagTurns + 1]int64

// source is a valid curve of what comes.
type source struct {
	curve []int64
	few   few
}

// shaft is a valid curve of what is added.
type shaft []int64

// shafts is a chain: valid curves of shafts that stand one behind another.
type shafts [][]int64

// span is what a least sum is known for: a number of turns that is cut among so many shafts, the first ones of a chain.
type span struct {
	shafts, turns int
}

// cut is a number of turns that is cut in two.
type cut struct {
	part, rest int
}

// cuts yields the cuts of a number of turns whose part has from lo to hi turns.
func cuts(turns, lo, hi int) iter.Seq[cut] {
	return func(yield func(cut) bool) {
		for part := lo; part <= min(hi, turns); part++ {
			if !yield(cut{part: part, rest: turns - part}) {
				return
			}
		}
	}
}

// between yields the numbers of turns from lo to hi.
func between(lo, hi int) iter.Seq[int] {
	return func(yield func(int) bool) {
		for turns := lo; turns <= hi; turns++ {
			if !yield(turns) {
				return
			}
		}
	}
}

// best returns the best one of the values of several, of which there has to be one at least.
func best[T, V any](several iter.Seq[T], value func(T) V, better func(a, b V) bool) V {
	var found V
	none := true
	for x := range several {
		if v := value(x); none || better(v, found) {
			found, none = v, false
		}
	}
	return found
}

func less(a, b int64) bool { return a < b }

func greater(a, b int64) bool { return a > b }

func slower(a, b api.Ratio) bool { return a.Num*b.Den < b.Num*a.Den }

// within reports whether all numbers are from lo to hi.
func within(lo, hi int64, numbers ...int64) bool {
	return !slices.ContainsFunc(numbers, func(n int64) bool { return n < lo || n > hi })
}

// ratio returns num by den, which is above 0, in least terms.
func ratio(num, den int64) api.Ratio {
	divisor, rest := den, num
	for rest != 0 {
		divisor, rest = rest, divisor%rest
	}
	return api.Ratio{Num: num / divisor, Den: den / divisor}
}

// sourceOf returns the source of a valid curve.
func sourceOf(curve []int64) source {
	s := source{curve: curve}
	copy(s.few[:], leastSums(curve, api.MaxLagTurns))
	return s
}

// most returns the most for each number of turns up to the last one.
func (s source) most(last int) totals {
	return leastSums(s.few[1:], last)
}

// leastSums returns, for each number of turns up to the last one, the least sum of numbers for the parts into which it can be cut.
func leastSums(numbers []int64, last int) totals {
	sums := make(totals, last+1)
	for turns := 1; turns <= last; turns++ {
		sums[turns] = best(cuts(turns, 1, len(numbers)), func(c cut) int64 {
			return numbers[c.part-1] + sums[c.rest]
		}, less)
	}
	return sums
}

func (s source) rate() api.Ratio {
	return best(between(1, api.MaxLagTurns), func(turns int) api.Ratio {
		return ratio(s.few[turns], int64(turns))
	}, slower)
}

func (s shaft) rate() api.Ratio {
	return ratio(s[len(s)-1], int64(len(s)))
}

// least returns the least for a number of turns.
func (s shaft) least(turns int) int64 {
	times, rest := turns/len(s), turns%len(s)
	sum := s[len(s)-1] * int64(times)
	if rest > 0 {
		sum += s[rest-1]
	}
	return sum
}

func (s shafts) rate() api.Ratio {
	return best(slices.Values(s), func(curve []int64) api.Ratio { return shaft(curve).rate() }, slower)
}

// least returns the least for each number of turns up to the last one.
func (s shafts) least(last int) totals {
	known := map[span]int64{}
	for turns := range last + 1 {
		known[span{1, turns}] = shaft(s[0]).least(turns)
	}
	for before := 1; before < len(s); before++ {
		next := shaft(s[before])
		// Lesser numbers of turns need no sums for greater ones, which can go.
		for turns := last; turns >= 0; turns-- {
			known[span{before + 1, turns}] = best(cuts(turns, 0, turns), func(x cut) int64 {
				return next.least(x.part) + known[span{before, x.rest}]
			}, less)
			delete(known, span{before, turns})
		}
	}
	sums := make(totals, last+1)
	for turns := range sums {
		sums[turns] = known[span{len(s), turns}]
	}
	return sums
}

package odds

import (
	"iter"

	"quinella/api"
)

func isStep(step int) bool { return within(1, api.MaxOddsStep, int64(step)) }

// checkPlace reports whether a fraction has neighbours on the ladder of a step.
func checkPlace(r api.Ratio, step int) api.Errno {
	if !isFraction(r) {
		return api.ErrRange
	}
	if !isStep(step) {
		return api.ErrArg
	}
	return api.OK
}

// gaps yields two fractions, lo and hi, on the way to the neighbours of a fraction, again and again, without an end: one is
// not greater than it, the other one is, and there is no fraction between them whose Den is less than both of theirs together.
func gaps(r api.Ratio) iter.Seq2[api.Ratio, api.Ratio] {
	return func(yield func(lo, hi api.Ratio) bool) {
		lo := api.Ratio{Num: r.Num / r.Den, Den: 1}
		hi := api.Ratio{Num: lo.Num + 1, Den: 1}
		for yield(lo, hi) {
			between := api.Ratio{Num: lo.Num + hi.Num, Den: lo.Den + hi.Den}
			if less(r, between) {
				hi = between
			} else {
				lo = between
			}
		}
	}
}

// neighbours returns both neighbours of a fraction, which is not below 0.
func neighbours(r api.Ratio, step int) (lo, hi api.Ratio) {
	for lo, hi = range gaps(r) {
		if lo.Den+hi.Den > int64(step) {
			break
		}
	}
	return lo, hi
}

// areProof reports whether two fractions are a proof that they are the neighbours of a valid fraction.
func areProof(r api.Ratio, step int, lo, hi api.Ratio) bool {
	if !within(1, int64(step), lo.Den, hi.Den) {
		return false
	}
	// No neighbour is greater than one more than the greatest valid fraction; products of greater numbers could be too great.
	const most = api.MaxOddsNum + 1
	if !within(0, most*lo.Den, lo.Num) || !within(0, most*hi.Den, hi.Num) {
		return false
	}
	return !less(r, lo) && less(r, hi) && hi.Num*lo.Den == lo.Num*hi.Den+1 && lo.Den+hi.Den > int64(step)
}

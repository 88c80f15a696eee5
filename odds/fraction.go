package odds

import (
	"slices"

	"quinella/api"
)

// within reports whether all numbers are from lo to hi.
func within(lo, hi int64, numbers ...int64) bool {
	return !slices.ContainsFunc(numbers, func(n int64) bool { return n < lo || n > hi })
}

// best returns the first one of several, of which there has to be one at least, than which none is better.
func best[T any](better func(a, b T) bool, several ...T) T {
	found := several[0]
	for _, x := range several[1:] {
		if better(x, found) {
			found = x
		}
	}
	return found
}

// divisor returns the greatest common divisor of two numbers that are not both 0.
func divisor(a, b int64) int64 {
	for b != 0 {
		a, b = b, a%b
	}
	return max(a, -a)
}

// ratio returns num by den, which is above 0, in least terms.
func ratio(num, den int64) api.Ratio {
	d := divisor(num, den)
	return api.Ratio{Num: num / d, Den: den / d}
}

func less(a, b api.Ratio) bool { return a.Num*b.Den < b.Num*a.Den }

func minus(a, b api.Ratio) api.Ratio {
	return ratio(a.Num*b.Den-b.Num*a.Den, a.Den*b.Den)
}

func distance(a, b api.Ratio) api.Ratio {
	if less(a, b) {
		return minus(b, a)
	}
	return minus(a, b)
}

// multiple returns the least common multiple of two numbers above 0.
func multiple(a, b int64) int64 { return a / divisor(a, b) * b }

// numbers returns the least whole numbers that are all as many times as great as fractions.
func numbers(fractions ...api.Ratio) []int64 {
	times := int64(1)
	for _, r := range fractions {
		times = multiple(times, r.Den)
	}
	list := make([]int64, len(fractions))
	for i, r := range fractions {
		list[i] = times / r.Den * r.Num
	}
	return list
}

// isFraction reports whether a fraction is valid.
func isFraction(r api.Ratio) bool {
	return within(1, api.MaxOddsDen, r.Den) && within(0, api.MaxOddsNum*r.Den, r.Num)
}

// simplest returns the least one of the fractions from lo to hi that have the least Den.
func simplest(lo, hi api.Ratio) api.Ratio {
	whole := (lo.Num + lo.Den - 1) / lo.Den
	if whole*hi.Den <= hi.Num {
		return api.Ratio{Num: whole, Den: 1}
	}
	// All of them have the same whole number below them, and parts of 1 above it. The Den of such a part is the Num of
	// its reciprocal; where that one's Den is least, its Num is least as well.
	below := api.Ratio{Num: whole - 1, Den: 1}
	r := simplest(reciprocal(minus(hi, below)), reciprocal(minus(lo, below)))
	return api.Ratio{Num: below.Num*r.Num + r.Den, Den: r.Num}
}

func reciprocal(r api.Ratio) api.Ratio { return api.Ratio{Num: r.Den, Den: r.Num} }

package heat

import (
	"iter"
	"slices"

	"quinella/api"
)

// places are those of all runners; runners that a race does not have are in none.
type places [api.MaxHeatRunners]int

// panel is a race, and all finishes that agree with it, in lexicographic order.
type panel struct {
	api.HeatRace
	agreed []places
}

// panelOf returns the panel of a race, or the error of CheckRace.
func panelOf(h api.HeatRace) (panel, api.Errno) {
	if e := CheckRace(h); e != api.OK {
		return panel{}, e
	}
	p := panel{HeatRace: h}
	p.agreed = filter(p.finishes(), p.agrees)
	return p, api.OK
}

// within reports whether all numbers are from lo to hi.
func within(lo, hi int, numbers ...int) bool {
	return !slices.ContainsFunc(numbers, func(n int) bool { return n < lo || n > hi })
}

// filter returns all elements that are good, in their order.
func filter[T any](elements iter.Seq[T], good func(T) bool) []T {
	var found []T
	for x := range elements {
		if good(x) {
			found = append(found, x)
		}
	}
	return found
}

func (p panel) areRunners(numbers ...int) bool { return within(0, p.Runners-1, numbers...) }

func (p panel) hasAgreed() bool { return len(p.agreed) > 0 }

// isNoWord reports whether a word is none of valid runners.
func (p panel) isNoWord(w api.HeatWord) bool {
	return !p.areRunners(w.One, w.Two) || w.One == w.Two || !within(api.HeatBefore, api.HeatNoLess, w.Kind)
}

// agrees reports whether a finish agrees with a word.
func (f places) agrees(w api.HeatWord) bool {
	switch w.Kind {
	case api.HeatBefore:
		return f[w.One] < f[w.Two]
	case api.HeatWith:
		return f[w.One] == f[w.Two]
	}
	return f[w.One] <= f[w.Two]
}

// agrees reports whether a finish agrees with all words.
func (p panel) agrees(f places) bool { return p.denied(f) == noWord }

// isFinish reports whether numbers are the places of the runners who come in as they tell.
func (p panel) isFinish(numbers places) bool {
	var in places
	for runner := range p.Runners {
		in[runner] = 1
		for _, number := range numbers[:p.Runners] {
			if number < numbers[runner] {
				in[runner]++
			}
		}
	}
	return in == numbers
}

// finishes yields all finishes in lexicographic order.
func (p panel) finishes() iter.Seq[places] {
	return func(yield func(places) bool) { p.fill(places{}, 0, yield) }
}

// fill yields the finishes in which the runners before this one have these places, and returns whether more are wanted.
func (p panel) fill(f places, runner int, yield func(places) bool) bool {
	if runner == p.Runners {
		return !p.isFinish(f) || yield(f)
	}
	for place := range p.Runners {
		f[runner] = place + 1
		if !p.fill(f, runner+1, yield) {
			return false
		}
	}
	return true
}

// kind returns in how many of the finishes that agree something is so.
func (p panel) kind(isSo func(places) bool) (int, api.Errno) {
	if !p.hasAgreed() {
		return 0, api.ErrHeat
	}
	switch len(filter(slices.Values(p.agreed), isSo)) {
	case 0:
		return api.HeatNever, api.OK
	case len(p.agreed):
		return api.HeatAlways, api.OK
	}
	return api.HeatMay, api.OK
}

package tape

import "quinella/api"

// moment is a state, and how many letters of their windows are to come up to two impulses, with the impulses.
type moment struct {
	state
	one, two int
}

// watch is a show of which the nights are counted in which an impulse comes before another one.
type watch struct {
	show
	one, two api.TapeImpulse
	known    map[moment]int64
}

// before returns in how many nights an impulse comes before another one.
func (s show) before(one, two api.TapeImpulse) int64 {
	w := watch{show: s, one: one, two: two, known: map[moment]int64{}}
	return w.count(moment{s.start, one.Nth, two.Nth})
}

// count returns how many nights in which it is so go on from a moment.
func (w watch) count(from moment) int64 {
	if !w.leads(from.state) {
		return 0
	}
	if from.two == 0 {
		return w.nights[from.state] // whatever comes
	}
	if many, isKnown := w.known[from]; isKnown {
		return many
	}
	var many int64
	for window, to := range w.goesOn(from.state) {
		if next, isOpen := w.next(from, window, to); isOpen {
			many += w.count(next)
		}
	}
	w.known[from] = many
	return many
}

// next returns the moment behind a letter, which leads to a state, and whether it can still be so. It cannot if two comes while one has not: one and two can be the same impulse, so that one is counted last.
func (w watch) next(from moment, window byte, to state) (moment, bool) {
	from.state = to
	if window == w.two.Window {
		from.two--
	}
	if from.two == 0 && from.one > 0 {
		return moment{}, false
	}
	if window == w.one.Window && from.one > 0 {
		from.one--
	}
	return from, true
}

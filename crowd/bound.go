package crowd

import (
	"iter"

	"quinella/api"
)

// crowds yields the crowds in their order, each with its bound. It leaves out those that begin after the last minute of everybody: nobody falls into them, so that their bounds are 0.
func (f floor) crowds() iter.Seq2[api.Range, int] {
	return func(yield func(api.Range, int) bool) {
		var until counts
		for from := int64(1); from <= f.Minutes; from++ {
			clear(until[:])
			f.mark(&until, from)
			if until == (counts{}) {
				return
			}
			fallen := 0
			for to := from; to <= f.Minutes; to++ {
				fallen += until[to]
				if !yield(api.Range{Lo: from, Hi: to}, roundedUp(fallen, int(to-from+1))) {
					return
				}
			}
		}
	}
}

// mark adds the people whose last minute is not before from, each in the minute of its Until.
func (f floor) mark(until *counts, from int64) {
	for person, p := range f.People {
		if f.canCome(person) && f.last(person) >= from {
			until[p.Until]++
		}
	}
}

// roundedUp returns a number divided by one above 0, rounded up.
func roundedUp(number, by int) int { return (number + by - 1) / by }

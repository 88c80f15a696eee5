package cut

import (
	"cmp"
	"iter"
	"slices"

	"quinella/api"
)

// pair is two places, one after another.
type pair struct {
	from, to int
}

// leg is a step, and what it costs.
type leg struct {
	step api.CutStep
	cost int64
}

// sheet is a valid hall, or one that is being checked.
type sheet struct {
	api.CutHall
	legs map[pair]leg // of the steps between two places the cheapest one
}

// sheetWithout returns the sheet of a valid hall in which some counters do not count.
func sheetWithout(h api.CutHall, wrong set) sheet {
	s := sheet{CutHall: h, legs: map[pair]leg{}}
	cheaper := func(a, b leg) int { return cmp.Compare(a.cost, b.cost) }
	for step, cost := range s.steps(wrong.lacks) {
		ends, l := s.ends(step), leg{step: step, cost: cost}
		if old, ok := s.legs[ends]; ok {
			l = least(cheaper, old, l)
		}
		s.legs[ends] = l
	}
	return s
}

// within reports whether all numbers are from lo to hi.
func within(lo, hi int64, numbers ...int64) bool {
	return !slices.ContainsFunc(numbers, func(n int64) bool { return n < lo || n > hi })
}

// least returns the first one of several, of which there has to be one at least, than which none comes before.
func least[T any](compare func(a, b T) int, several ...T) T {
	found := several[0]
	for _, x := range several[1:] {
		if compare(x, found) < 0 {
			found = x
		}
	}
	return found
}

func total(numbers []int64) int64 {
	var sum int64
	for _, n := range numbers {
		sum += n
	}
	return sum
}

// isAstray reports whether a counter does not count windows.
func (s sheet) isAstray(c api.CutCounter) bool {
	return !within(0, int64(s.Windows)-1, int64(c.From), int64(c.To)) || c.From > c.To
}

// isBeyond reports whether a Count is beyond the limits.
func isBeyond(c api.CutCounter) bool {
	return !within(0, api.MaxCutCount, c.Count.Lo, c.Count.Hi) || c.Count.Lo > c.Count.Hi
}

// counted returns the counter over whose windows a valid step leads; a window is as good as one that has counted it alone.
func (s sheet) counted(step api.CutStep) api.CutCounter {
	if step.Window {
		return api.CutCounter{From: step.Index, To: step.Index, Count: api.Range{Lo: 0, Hi: s.Most}}
	}
	return s.Counters[step.Index]
}

// ends returns from where to where a valid step leads.
func (s sheet) ends(step api.CutStep) pair {
	c := s.counted(step)
	if step.Back {
		return pair{from: c.To + 1, to: c.From}
	}
	return pair{from: c.From, to: c.To + 1}
}

func (s sheet) cost(step api.CutStep) int64 {
	count := s.counted(step).Count
	if step.Back {
		return -count.Lo
	}
	return count.Hi
}

// steps yields the steps over windows, and over the counters that count, with what they cost.
func (s sheet) steps(counts func(counter int) bool) iter.Seq2[api.CutStep, int64] {
	return func(yield func(api.CutStep, int64) bool) {
		both := func(window bool, index int) bool {
			there := api.CutStep{Window: window, Index: index}
			back := api.CutStep{Window: window, Index: index, Back: true}
			return yield(there, s.cost(there)) && yield(back, s.cost(back))
		}
		for window := range s.Windows {
			if !both(true, window) {
				return
			}
		}
		for counter := range s.Counters {
			if counts(counter) && !both(false, counter) {
				return
			}
		}
	}
}

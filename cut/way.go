package cut

import (
	"slices"

	"quinella/api"
)

// checkPlaces returns the error of a hall, or ErrArg if not all numbers are places of it.
func checkPlaces(h api.CutHall, from, to int) api.Errno {
	if e := CheckHall(h); e != api.OK {
		return e
	}
	if !within(0, int64(h.Windows), int64(from), int64(to)) {
		return api.ErrArg
	}
	return api.OK
}

// checkSteps reports whether ways have not too many steps, and valid ones.
func (s sheet) checkSteps(ways ...[]api.CutStep) api.Errno {
	isLong := func(way []api.CutStep) bool { return len(way) > api.MaxCutSteps }
	if slices.ContainsFunc(ways, isLong) {
		return api.ErrMany
	}
	strays := func(way []api.CutStep) bool { return slices.ContainsFunc(way, s.isStray) }
	if slices.ContainsFunc(ways, strays) {
		return api.ErrRange
	}
	return api.OK
}

// isStray reports whether a step is over nothing that there is.
func (s sheet) isStray(step api.CutStep) bool {
	many := len(s.Counters)
	if step.Window {
		many = s.Windows
	}
	return !within(0, int64(many)-1, int64(step.Index))
}

// walk returns to where valid steps lead from a place, and their sum; ok is false if they are no way.
func (s sheet) walk(from int, way []api.CutStep) (at int, sum int64, ok bool) {
	at = from
	for _, step := range way {
		ends := s.ends(step)
		if ends.from != at {
			return 0, 0, false
		}
		at = ends.to
		sum += s.cost(step)
	}
	return at, sum, true
}

// isNoRing reports whether valid steps are no ring.
func (s sheet) isNoRing(way []api.CutStep) bool {
	if len(way) == 0 {
		return true
	}
	from := s.ends(way[0]).from
	to, sum, ok := s.walk(from, way)
	return !ok || to != from || sum >= 0
}

// areApart reports whether no counter is in a step of two ways.
func areApart(ways [][]api.CutStep) bool {
	var taken [api.MaxCutCounters]bool
	here := make([]bool, api.MaxCutCounters)
	for _, way := range ways {
		clear(here)
		for _, step := range way {
			if step.Window {
				continue
			}
			if taken[step.Index] && !here[step.Index] {
				return false
			}
			taken[step.Index], here[step.Index] = true, true
		}
	}
	return true
}

// way returns a way with the least sum, of a sheet without a ring in which there is one. It grows over places whose least sums
// differ by just what a step between them costs.
func (s sheet) way(from, to int) []api.CutStep {
	sum, _ := s.leastSums(from)
	ways := map[int][]api.CutStep{from: nil}
	for range s.Windows {
		for at := range s.Windows + 1 {
			way, isReached := ways[at]
			if !isReached {
				continue
			}
			for next := range s.Windows + 1 {
				l, leads := s.legs[pair{from: at, to: next}]
				if _, had := ways[next]; !had && leads && sum[at]+l.cost == sum[next] {
					// Cut at its capacity, the way can go on to several places.
					ways[next] = append(way[:len(way):len(way)], l.step)
				}
			}
		}
	}
	return ways[to]
}

// ring returns a ring of a sheet that has one. Steps without which there still is one lead nowhere; the first one without which
// there is none is in all rings that were left, and so the least way back from its end makes one with it.
func (s sheet) ring() []api.CutStep {
	var ends pair
	var last leg
search:
	for ends.from = range s.Windows + 1 {
		for ends.to = range s.Windows + 1 {
			last = s.legs[ends]
			delete(s.legs, ends)
			if s.agrees() {
				break search
			}
		}
	}
	back := s.way(ends.to, ends.from)
	ring := make([]api.CutStep, 1+len(back))
	ring[0] = last.step
	copy(ring[1:], back)
	return ring
}

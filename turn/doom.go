package turn

import "quinella/api"

// noStep is above each Left that a step can have.
const noStep = api.MaxNumber + 1

// leastLeft returns, for each state, the least Left of the steps whose State is not fuller anywhere, or noStep.
func (h hall) leastLeft(steps []api.TurnStep) map[place]int64 {
	own := map[place]int64{}
	for _, s := range steps {
		p := placeOf(s.State)
		if left, ok := own[p]; !ok || s.Left < left {
			own[p] = s.Left
		}
	}
	least := map[place]int64{}
	for p := range h.places() {
		left, ok := own[p]
		if !ok {
			left = noStep
		}
		// The states below p are below one that has one impulse less, which comes before p.
		for w := range h.screws() {
			if p.held[w] > 0 {
				below := p
				below.held[w]--
				left = min(left, least[below])
			}
		}
		least[p] = left
	}
	return least
}

// doomedBy reports whether steps are right, and doom a state.
func (h hall) doomedBy(p place, steps []api.TurnStep) bool {
	least := h.leastLeft(steps)
	for _, s := range steps {
		for _, after := range h.visits(placeOf(s.State)) {
			if least[after] >= s.Left {
				return false
			}
		}
	}
	return least[p] != noStep
}

// steps returns those of a doomed state and of all to which it can lead.
func (t table) steps(p place) []api.TurnStep {
	reached := []place{p}
	seen := map[place]bool{p: true}
	for at := 0; at < len(reached); at++ {
		for _, after := range t.visits(reached[at]) {
			if !seen[after] {
				seen[after] = true
				reached = append(reached, after)
			}
		}
	}
	var steps []api.TurnStep
	for _, q := range reached {
		steps = append(steps, api.TurnStep{State: q.list(), Left: int64(t.lasts[q]) + 1})
	}
	return steps
}

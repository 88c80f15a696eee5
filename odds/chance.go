package odds

import "quinella/api"

// bounds are a chance for each runner, or none.
type bounds [api.MaxOddsField]api.Ratio

// bound returns the chance of its runner up to which, or with Lay from which on, a quote is fair.
func bound(q api.OddsQuote) api.Ratio { return ratio(q.Den, q.Num+q.Den) }

// isFair reports whether a quote is fair if its runner has a chance.
func isFair(q api.OddsQuote, chance api.Ratio) bool {
	if q.Lay {
		return !less(chance, bound(q))
	}
	return !less(bound(q), chance)
}

// total returns the sum of chances; ok is false if they are not as described.
func total(chances []int64) (sum int64, ok bool) {
	if !within(0, api.MaxNumber, chances...) {
		return 0, false
	}
	for _, n := range chances {
		sum += n
	}
	return sum, within(1, api.MaxNumber, sum)
}

// ends returns the bounds of the best quotes of one kind, and a certain chance for runners without such a quote.
func (d desk) ends(lay bool, without api.Ratio) bounds {
	var b bounds
	for runner := range d.Runners {
		b[runner] = without
		if at, ok := d.best[side{runner: runner, lay: lay}]; ok {
			b[runner] = bound(d.Quotes[at])
		}
	}
	return b
}

// fair returns fair chances, or none. The least chances are at most 1 together, and the greatest ones at least 1, if there are
// any; so there is a runner before whom all can have their greatest chances, and behind whom all can have their least ones.
func (d desk) fair() bounds {
	least := d.ends(true, api.Ratio{Num: 0, Den: 1})
	greatest := d.ends(false, api.Ratio{Num: 1, Den: 1})
search:
	for runner := range d.Runners {
		var chances bounds
		// The greatest chances are cut at their capacity, so that the least ones do not write over those of the next runners.
		copy(chances[:], append(greatest[:runner:runner], least[runner:]...))
		chances[runner] = d.rest(chances, runner)
		if chances[runner].Num < 0 {
			continue
		}
		for _, q := range d.Quotes {
			if !isFair(q, chances[q.Runner]) {
				continue search
			}
		}
		return chances
	}
	return bounds{}
}

// rest returns what the chances of all others leave to a runner.
func (d desk) rest(chances bounds, runner int) api.Ratio {
	left := api.Ratio{Num: 1, Den: 1}
	for other := range d.Runners {
		if other != runner {
			left = minus(left, chances[other])
		}
	}
	return left
}

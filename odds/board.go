package odds

import "quinella/api"

// whole is how many thousandth parts are all of it.
const whole = 1000

// pool is a valid pool.
type pool struct {
	api.OddsPool
}

// refuses reports whether a range is not one of a stake.
func refuses(stake api.Range) bool {
	return !within(0, api.MaxOddsStake, stake.Lo, stake.Hi) || stake.Lo > stake.Hi
}

// checkRunner returns the error of a pool, or ErrArg if it has no such runner.
func checkRunner(p api.OddsPool, runner int) api.Errno {
	if e := CheckPool(p); e != api.OK {
		return e
	}
	if !within(0, int64(len(p.Stakes))-1, int64(runner)) {
		return api.ErrArg
	}
	return api.OK
}

// odds returns the odds of a runner with a stake, which is above 0, and so much staked on all others.
func (p pool) odds(stake, others int64) api.Ratio {
	left := (stake+others)*(whole-p.Cut) - stake*whole
	return ratio(max(left, 0), stake*whole)
}

// span returns the least and the greatest odds of a runner. What is staked on it lowers them, what is staked on others raises them.
func (p pool) span(runner int) (least, greatest api.Ratio) {
	var others api.Range
	for other, stake := range p.Stakes {
		if other != runner {
			others.Lo += stake.Lo
			others.Hi += stake.Hi
		}
	}
	stake := p.Stakes[runner]
	return p.odds(stake.Hi, others.Lo), p.odds(stake.Lo, others.Hi)
}

// shown returns what the board shows of odds.
func shown(odds api.Ratio, step int) api.Ratio {
	highest := api.Ratio{Num: api.MaxOddsNum, Den: 1}
	if less(highest, odds) {
		return highest
	}
	lo, _ := neighbours(odds, step)
	return lo
}

package odds_test

import (
	"math/big"
	"math/rand"
	"reflect"
	"slices"
	"testing"

	"quinella/api"
	"quinella/odds"
)

func rat(r api.Ratio) *big.Rat { return big.NewRat(r.Num, r.Den) }

func whole(n int64) *big.Rat { return big.NewRat(n, 1) }

func add(a, b *big.Rat) *big.Rat { return new(big.Rat).Add(a, b) }

func sub(a, b *big.Rat) *big.Rat { return new(big.Rat).Sub(a, b) }

func mul(a, b *big.Rat) *big.Rat { return new(big.Rat).Mul(a, b) }

func div(a, b *big.Rat) *big.Rat { return new(big.Rat).Quo(a, b) }

// is reports whether a fraction is a number in least terms.
func is(r api.Ratio, want *big.Rat) bool {
	return want.Num().IsInt64() && want.Denom().IsInt64() && r == by(want.Num().Int64(), want.Denom().Int64())
}

// floor returns the number that has a Den, and is the greatest one that is not greater.
func floor(r *big.Rat, den int64) *big.Rat {
	up := mul(r, whole(den))
	n := new(big.Int).Div(up.Num(), up.Denom())
	return div(new(big.Rat).SetInt(n), whole(den))
}

// neighboursOf looks for both neighbours among the fractions of each Den.
func neighboursOf(r *big.Rat, step int) (lo, hi *big.Rat) {
	for den := int64(1); den <= int64(step); den++ {
		below := floor(r, den)
		above := add(below, big.NewRat(1, den))
		if lo == nil || below.Cmp(lo) > 0 {
			lo = below
		}
		if hi == nil || above.Cmp(hi) < 0 {
			hi = above
		}
	}
	return lo, hi
}

// isProof is the chapter's definition of a proof.
func isProof(r api.Ratio, step int, lo, hi api.Ratio) bool {
	for _, x := range []api.Ratio{lo, hi} {
		if x.Den < 1 || x.Den > int64(step) || x.Num < 0 {
			return false
		}
	}
	cross := sub(mul(whole(hi.Num), whole(lo.Den)), mul(whole(lo.Num), whole(hi.Den)))
	return rat(lo).Cmp(rat(r)) <= 0 && rat(hi).Cmp(rat(r)) > 0 && cross.Cmp(whole(1)) == 0 && lo.Den+hi.Den > int64(step)
}

// randomFraction returns a valid fraction: a simple one, one that is near a simple one, or any one.
func randomFraction(r *rand.Rand) api.Ratio {
	den := 1 + r.Int63n([]int64{5, 100, 1000, 1000000}[r.Intn(4)])
	num := r.Int63n(1 + []int64{1, 3, 1000}[r.Intn(3)]*den)
	if r.Intn(3) == 0 {
		times := 1000000 / den
		num, den = max(0, min(num*times+r.Int63n(3)-1, 1000*den*times)), den*times
	}
	return by(num, den)
}

// P4.1, P4.9
func TestNeighboursAsDefined(t *testing.T) {
	rng := rand.New(rand.NewSource(41))
	ties := 0
	for range 5000 {
		r, step := randomFraction(rng), 1+rng.Intn(100)
		if rng.Intn(2) == 0 {
			step = 1 + rng.Intn(6)
		}
		lo, hi := neighboursOf(rat(r), step)
		low, high, e := odds.Near(r, step)
		if !is(low, lo) || !is(high, hi) || e != api.OK {
			t.Fatal(r, step, low, high, e)
		}
		if !isProof(r, step, low, high) || odds.CheckNear(r, step, low, high) != api.OK {
			t.Fatal(r, step, low, high)
		}
		nearest := lo
		switch sub(rat(r), lo).Cmp(sub(hi, rat(r))) {
		case 0:
			ties++
		case 1:
			nearest = hi
		}
		if n, e := odds.Round(r, step); !is(n, nearest) || e != api.OK {
			t.Fatal(r, step, n, e)
		}
	}
	if ties == 0 {
		t.Error("no fraction is just between its neighbours")
	}
}

// P4.9: all that is a proof is just the neighbours.
func TestProofsAsDefined(t *testing.T) {
	var all []api.Ratio
	for num := int64(-1); num <= 7; num++ {
		for den := int64(-1); den <= 5; den++ {
			all = append(all, by(num, den))
		}
	}
	for _, r := range []api.Ratio{by(0, 1), by(1, 3), by(3, 5), by(31, 50), by(62, 100), by(1, 1), by(999, 1000), by(4, 3)} {
		for step := 1; step <= 6; step++ {
			near, far, _ := odds.Near(r, step)
			for _, lo := range all {
				for _, hi := range all {
					want := api.ErrSum
					if isProof(r, step, lo, hi) {
						want = api.OK
					}
					if e := odds.CheckNear(r, step, lo, hi); e != want || (e == api.OK) != (lo == near && hi == far) {
						t.Fatal(r, step, lo, hi, e)
					}
				}
			}
		}
	}
}

// P4.9
func TestGreaterStepsAreNoFurther(t *testing.T) {
	rng := rand.New(rand.NewSource(42))
	for range 200 {
		r := randomFraction(rng)
		lo, hi, _ := odds.Near(r, 1)
		for step := 2; step <= 100; step++ {
			nearLo, nearHi, e := odds.Near(r, step)
			if rat(nearLo).Cmp(rat(lo)) < 0 || rat(nearHi).Cmp(rat(hi)) > 0 || e != api.OK {
				t.Fatal(r, step, nearLo, nearHi, e)
			}
			lo, hi = nearLo, nearHi
		}
	}
}

// simplestOf tries one Den after the other.
func simplestOf(lo, hi api.Ratio) *big.Rat {
	for den := int64(1); ; den++ {
		up := floor(rat(lo), den)
		if up.Cmp(rat(lo)) < 0 {
			up = add(up, big.NewRat(1, den))
		}
		if up.Cmp(rat(hi)) <= 0 {
			return up
		}
	}
}

// P4.2, P4.10
func TestSimplestAsDefined(t *testing.T) {
	rng := rand.New(rand.NewSource(43))
	for range 3000 {
		lo, hi := randomFraction(rng), randomFraction(rng)
		switch rng.Intn(3) {
		case 0: // near one another
			den := 1 + rng.Int63n(2000)
			num := rng.Int63n(5 * den)
			lo, hi = by(num, den), by(num+rng.Int63n(3), den)
		case 1:
			lo = by(rng.Int63n(50), 1+rng.Int63n(40))
			hi = by(rng.Int63n(50), 1+rng.Int63n(40))
		}
		if rat(lo).Cmp(rat(hi)) > 0 {
			lo, hi = hi, lo
		}
		if rat(lo).Cmp(rat(hi)) == 0 && lo.Den > 2000 {
			continue // trying would take long
		}
		simplest, e := odds.Simplest(lo, hi)
		if !is(simplest, simplestOf(lo, hi)) || e != api.OK {
			t.Fatal(lo, hi, simplest, e)
		}
		if simplest.Den <= api.MaxOddsStep {
			if own, _, e := odds.Near(simplest, int(simplest.Den)); own != simplest || e != api.OK {
				t.Fatal(simplest, own, e)
			}
		}
		if rat(lo).Cmp(rat(hi)) == 0 {
			continue
		}
		if simplest, e := odds.Simplest(hi, lo); simplest != none || e != api.ErrRange {
			t.Fatal(hi, lo, simplest, e)
		}
	}
}

// randomPool returns a valid pool, with so few truths that all can be tried if it is small.
func randomPool(r *rand.Rand, small bool) api.OddsPool {
	p := api.OddsPool{Cut: r.Int63n(2) * r.Int63n(501)}
	runners, most, wide := 1+r.Intn(8), int64(1000000), int64(1000000)
	if small {
		runners, most, wide = 1+r.Intn(4), 30, 4
	}
	for range runners {
		lo := r.Int63n(most)
		p.Stakes = append(p.Stakes, stake(lo, min(lo+r.Int63n(wide), api.MaxOddsStake)))
	}
	return p
}

// truths calls what is done with each truth of a pool.
func truths(p api.OddsPool, do func(stakes []int64)) {
	var stakes []int64
	var next func()
	next = func() {
		if len(stakes) == len(p.Stakes) {
			do(stakes)
			return
		}
		x := p.Stakes[len(stakes)]
		for s := x.Lo; s <= x.Hi; s++ {
			stakes = append(stakes, s)
			next()
			stakes = stakes[:len(stakes)-1]
		}
	}
	next()
}

// oddsIn is the chapter's definition of the odds of a runner in a truth.
func oddsIn(p api.OddsPool, stakes []int64, runner int) *big.Rat {
	sum := new(big.Rat)
	for _, s := range stakes {
		sum = add(sum, whole(s))
	}
	kept := mul(sum, big.NewRat(p.Cut, 1000))
	left := sub(sub(sum, kept), whole(stakes[runner]))
	if left.Sign() < 0 {
		return new(big.Rat)
	}
	return div(left, whole(stakes[runner]))
}

// shownOf is the chapter's definition of what the board shows.
func shownOf(odds *big.Rat, step int) *big.Rat {
	if odds.Cmp(whole(1000)) > 0 {
		return whole(1000)
	}
	lo, _ := neighboursOf(odds, step)
	return lo
}

// widen makes the two ends contain a number.
func widen(lo, hi, n *big.Rat) (*big.Rat, *big.Rat) {
	if lo == nil || n.Cmp(lo) < 0 {
		lo = n
	}
	if hi == nil || n.Cmp(hi) > 0 {
		hi = n
	}
	return lo, hi
}

// P4.4, P4.11: the ends are those of all truths.
func TestSpansAreOfAllTruths(t *testing.T) {
	rng := rand.New(rand.NewSource(44))
	spans := 0
	for range 1000 {
		p := randomPool(rng, true)
		runner, step := rng.Intn(len(p.Stakes)), 1+rng.Intn(20)
		if p.Stakes[runner].Lo == 0 {
			if _, _, e := odds.Span(p, runner); e != api.ErrOdds {
				t.Fatal(p, runner, e)
			}
			continue
		}
		var lo, hi, low, high *big.Rat
		truths(p, func(stakes []int64) {
			o := oddsIn(p, stakes, runner)
			lo, hi = widen(lo, hi, o)
			low, high = widen(low, high, shownOf(o, step))
		})
		least, greatest, e := odds.Span(p, runner)
		if !is(least, lo) || !is(greatest, hi) || e != api.OK {
			t.Fatal(p, runner, least, greatest, e)
		}
		if least, greatest, e = odds.Board(p, runner, step); !is(least, low) || !is(greatest, high) || e != api.OK {
			t.Fatal(p, runner, step, least, greatest, e)
		}
		if least != greatest {
			spans++
		}
	}
	if spans == 0 {
		t.Error("all pools are known")
	}
}

// P4.4, P4.11: in a truth of a great pool.
func TestTruthsAreWithinSpans(t *testing.T) {
	rng := rand.New(rand.NewSource(45))
	for range 2000 {
		p := randomPool(rng, false)
		runner, step := rng.Intn(len(p.Stakes)), 1+rng.Intn(100)
		p.Stakes[runner].Lo = max(1, p.Stakes[runner].Lo>>rng.Intn(21))
		p.Stakes[runner].Hi = max(p.Stakes[runner].Lo, p.Stakes[runner].Hi)
		var truth []int64
		for _, s := range p.Stakes {
			truth = append(truth, s.Lo+rng.Int63n(s.Hi-s.Lo+1))
		}
		o := oddsIn(p, truth, runner)
		least, greatest, e1 := odds.Span(p, runner)
		low, high, e2 := odds.Board(p, runner, step)
		if e1 != api.OK || rat(least).Cmp(o) > 0 || rat(greatest).Cmp(o) < 0 {
			t.Fatal(p, truth, runner, least, greatest, e1)
		}
		if s := shownOf(o, step); e2 != api.OK || rat(low).Cmp(s) > 0 || rat(high).Cmp(s) < 0 {
			t.Fatal(p, truth, runner, low, high, e2)
		}
		exact := known(p.Cut, truth...)
		if lo, hi, e := odds.Span(exact, runner); !is(lo, o) || lo != hi || e != api.OK {
			t.Fatal(exact, runner, lo, hi, e)
		}
		if lo, hi, e := odds.Board(exact, runner, step); !is(lo, shownOf(o, step)) || lo != hi || e != api.OK {
			t.Fatal(exact, runner, lo, hi, e)
		}
	}
}

// P4.11
func TestNarrowerRangesWidenNothing(t *testing.T) {
	rng := rand.New(rand.NewSource(46))
	for range 2000 {
		p := randomPool(rng, rng.Intn(2) == 0)
		runner, step, other := rng.Intn(len(p.Stakes)), 1+rng.Intn(100), rng.Intn(len(p.Stakes))
		p.Stakes[runner].Lo = max(1, p.Stakes[runner].Lo)
		p.Stakes[runner].Hi = max(1, p.Stakes[runner].Hi)
		narrow := api.OddsPool{Stakes: slices.Clone(p.Stakes), Cut: p.Cut}
		x := &narrow.Stakes[other]
		x.Lo += rng.Int63n(x.Hi - x.Lo + 1)
		x.Hi -= rng.Int63n(x.Hi - x.Lo + 1)
		for _, ends := range []func(p api.OddsPool) (api.Ratio, api.Ratio, api.Errno){
			func(p api.OddsPool) (api.Ratio, api.Ratio, api.Errno) { return odds.Span(p, runner) },
			func(p api.OddsPool) (api.Ratio, api.Ratio, api.Errno) { return odds.Board(p, runner, step) },
		} {
			lo, hi, e1 := ends(p)
			low, high, e2 := ends(narrow)
			if e1 != api.OK || e2 != api.OK || rat(low).Cmp(rat(lo)) < 0 || rat(high).Cmp(rat(hi)) > 0 {
				t.Fatal(p, narrow, runner, lo, hi, e1, low, high, e2)
			}
		}
	}
}

// P4.12
func TestKeptNothing(t *testing.T) {
	rng := rand.New(rand.NewSource(47))
	tried := 0
	for range 20000 {
		p := api.OddsPool{}
		var stakes []int64
		unit := 1 + rng.Int63n(50)
		for range 1 + rng.Intn(5) {
			s := unit * (1 + rng.Int63n(8))
			p.Stakes, stakes = append(p.Stakes, stake(s, s)), append(stakes, s)
		}
		m := market(len(p.Stakes))
		for runner := range p.Stakes {
			o, same, e := odds.Span(p, runner)
			if o != same || e != api.OK {
				t.Fatal(p, runner, o, same, e)
			}
			m.Quotes = append(m.Quotes, back(runner, o.Num, o.Den))
		}
		if odds.CheckMarket(m) != api.OK {
			continue // such odds are beyond the limits of quotes
		}
		tried++
		for runner := range p.Stakes {
			if net, e := odds.Net(m, stakes, runner); net != by(0, 1) || e != api.OK {
				t.Fatal(p, m, runner, net, e)
			}
		}
	}
	if tried < 1000 {
		t.Error(tried)
	}
}

// P4.14
func TestOddsStay(t *testing.T) {
	rng := rand.New(rand.NewSource(48))
	for range 2000 {
		p := randomPool(rng, true)
		times := 1 + rng.Int63n(30000)
		more := api.OddsPool{Cut: p.Cut}
		for _, s := range p.Stakes {
			more.Stakes = append(more.Stakes, stake(s.Lo*times, s.Hi*times))
		}
		for runner := range p.Stakes {
			lo, hi, e := odds.Span(p, runner)
			if low, high, f := odds.Span(more, runner); low != lo || high != hi || f != e {
				t.Fatal(p, times, runner, low, high, f)
			}
			lo, hi, e = odds.Board(p, runner, 7)
			if low, high, f := odds.Board(more, runner, 7); low != lo || high != hi || f != e {
				t.Fatal(p, times, runner, low, high, f)
			}
		}
	}
}

// randomMarket returns a valid market. Its odds are near those of some chances, so that fair chances are neither rare nor sure.
func randomMarket(r *rand.Rand) api.OddsMarket {
	m := market(1 + r.Intn(5))
	chances, sum := make([]int64, m.Runners), int64(0)
	for i := range chances {
		chances[i] = 1 + r.Int63n(6)
		sum += chances[i]
	}
	slack := r.Int63n(12) - 2
	for range r.Intn(13) {
		q := api.OddsQuote{Runner: r.Intn(m.Runners), Lay: r.Intn(3) == 0, Den: 1 + r.Int63n(10)}
		c := chances[q.Runner]
		near := (sum - c) * q.Den / c
		if q.Lay {
			near += slack
		} else {
			near -= slack
		}
		q.Num = max(0, min(near, 190))
		if r.Intn(8) == 0 {
			q.Num = r.Int63n(191)
		}
		m.Quotes = append(m.Quotes, q)
	}
	return m
}

// netOf is the chapter's definition of the net.
func netOf(m api.OddsMarket, stakes []int64, runner int) *big.Rat {
	net := new(big.Rat)
	for i, q := range m.Quotes {
		x := whole(stakes[i])
		gain := mul(x, big.NewRat(q.Num, q.Den))
		switch {
		case q.Runner == runner && q.Lay:
			net = sub(net, gain)
		case q.Runner == runner:
			net = add(net, gain)
		case q.Lay:
			net = add(net, x)
		default:
			net = sub(net, x)
		}
	}
	return net
}

func winSurely(m api.OddsMarket, stakes []int64) bool {
	for runner := range m.Runners {
		if netOf(m, stakes, runner).Sign() <= 0 {
			return false
		}
	}
	return true
}

// areFair is the chapter's definition of fair chances.
func areFair(m api.OddsMarket, chances []int64) bool {
	sum := new(big.Rat)
	for _, n := range chances {
		sum = add(sum, whole(n))
	}
	for _, q := range m.Quotes {
		x := mul(div(whole(chances[q.Runner]), sum), whole(q.Num+q.Den))
		if c := x.Cmp(whole(q.Den)); q.Lay && c < 0 || !q.Lay && c > 0 {
			return false
		}
	}
	return true
}

// settle asks for stakes and for chances, looks at them as they are defined, and returns whether stakes win surely.
func settle(t *testing.T, m api.OddsMarket) bool {
	t.Helper()
	stakes, e1 := odds.Stakes(m)
	chances, e2 := odds.Chances(m)
	switch {
	case e1 == api.OK && e2 == api.ErrOdds:
		for _, x := range stakes {
			if x < 0 || x > api.MaxNumber {
				t.Fatal(m, stakes)
			}
		}
		if len(chances) != 0 || len(stakes) != len(m.Quotes) || !winSurely(m, stakes) || odds.CheckStakes(m, stakes) != api.OK {
			t.Fatal(m, stakes, chances)
		}
		return true
	case e1 == api.ErrNone && e2 == api.OK:
		sum := int64(0)
		for _, n := range chances {
			if sum += n; n < 0 || sum > api.MaxNumber {
				t.Fatal(m, chances)
			}
		}
		if len(stakes) != 0 || len(chances) != m.Runners || sum < 1 || !areFair(m, chances) || odds.CheckChances(m, chances) != api.OK {
			t.Fatal(m, stakes, chances)
		}
		return false
	}
	t.Fatal(m, stakes, e1, chances, e2)
	return false
}

// P4.6, P4.7, P4.8
func TestEitherFairOrSure(t *testing.T) {
	rng := rand.New(rand.NewSource(49))
	sure := 0
	for range 20000 {
		if settle(t, randomMarket(rng)) {
			sure++
		}
	}
	if sure < 4000 || sure > 16000 {
		t.Error(sure)
	}
}

// P4.6, P4.7, P4.8: all markets of up to three quotes of a few kinds.
func TestEitherInAllSmallMarkets(t *testing.T) {
	var quotes []api.OddsQuote
	for runner := range 3 {
		for _, r := range []api.Ratio{by(0, 1), by(1, 2), by(1, 1), by(4, 2), by(5, 2)} {
			quotes = append(quotes, back(runner, r.Num, r.Den), lay(runner, r.Num, r.Den))
		}
	}
	for i, one := range quotes {
		settle(t, market(3, one))
		for j, two := range quotes[i:] {
			settle(t, market(3, one, two))
			for _, three := range quotes[i+j:] {
				settle(t, market(3, one, two, three))
				if one.Runner < 2 && two.Runner < 2 && three.Runner < 2 {
					settle(t, market(2, three, one, two))
				}
			}
		}
	}
}

// P4.6, P4.7, P4.8: at the limits, where the Den of chances are great.
func TestEitherAtTheLimits(t *testing.T) {
	rng := rand.New(rand.NewSource(50))
	kinds := 0
	for range 5000 {
		m := market(5)
		for runner := range 5 {
			m.Quotes = append(m.Quotes, back(runner, 150+rng.Int63n(41), 10), lay(runner, 150+rng.Int63n(41), 10))
		}
		at := rng.Intn(10)
		m.Quotes[at].Num, m.Quotes[at].Den = rng.Int63n(6), 7+rng.Int63n(4)
		switch rng.Intn(3) {
		case 0:
			m.Quotes = slices.DeleteFunc(m.Quotes, func(q api.OddsQuote) bool { return q.Lay })
		case 1:
			m.Quotes = slices.DeleteFunc(m.Quotes, func(q api.OddsQuote) bool { return !q.Lay })
		}
		if settle(t, m) {
			kinds |= 1
		} else {
			kinds |= 2
		}
	}
	if kinds != 3 {
		t.Error(kinds)
	}
}

// P4.8: where chances are fair, stakes that might win do not win surely.
func TestNotBoth(t *testing.T) {
	rng := rand.New(rand.NewSource(51))
	for range 2000 {
		m := randomMarket(rng)
		fair := !settle(t, m)
		for range 20 {
			var stakes, chances []int64
			for range m.Quotes {
				stakes = append(stakes, rng.Int63n(12))
			}
			for range m.Runners {
				chances = append(chances, 1+rng.Int63n(12))
			}
			if odds.CheckStakes(m, stakes) == api.OK && fair || odds.CheckChances(m, chances) == api.OK && !fair {
				t.Fatal(m, stakes, chances)
			}
		}
	}
}

// P4.5, P4.6, P4.7
func TestMarketsAsDefined(t *testing.T) {
	rng := rand.New(rand.NewSource(52))
	sure, fair := 0, 0
	for range 5000 {
		m := randomMarket(rng)
		most := []int64{5, 100, 1 << 40}[rng.Intn(3)]
		var stakes, chances []int64
		for range m.Quotes {
			stakes = append(stakes, rng.Int63n(most+1))
		}
		for range m.Runners {
			chances = append(chances, rng.Int63n(most/5+1))
		}
		chances[0]++
		for runner := range m.Runners {
			if net, e := odds.Net(m, stakes, runner); !is(net, netOf(m, stakes, runner)) || e != api.OK {
				t.Fatal(m, stakes, runner, net, e)
			}
		}
		want := api.ErrSum
		if winSurely(m, stakes) {
			sure++
			want = api.OK
		}
		if e := odds.CheckStakes(m, stakes); e != want {
			t.Fatal(m, stakes, e)
		}
		want = api.ErrOdds
		if areFair(m, chances) {
			fair++
			want = api.OK
		}
		if e := odds.CheckChances(m, chances); e != want {
			t.Fatal(m, chances, e)
		}
	}
	if sure == 0 || fair == 0 {
		t.Error(sure, fair)
	}
}

// P4.13
func TestMoreQuotes(t *testing.T) {
	rng := rand.New(rand.NewSource(53))
	for range 5000 {
		more := randomMarket(rng)
		if len(more.Quotes) == 0 {
			continue
		}
		m := market(more.Runners, more.Quotes[:len(more.Quotes)-1]...)
		if stakes, e := odds.Stakes(m); e == api.OK {
			if odds.CheckStakes(more, append(stakes, 0)) != api.OK || !settle(t, more) {
				t.Fatal(more, stakes)
			}
		}
		if chances, e := odds.Chances(more); e == api.OK && odds.CheckChances(m, chances) != api.OK {
			t.Fatal(more, chances)
		}
		var chances []int64
		for range m.Runners {
			chances = append(chances, 1+rng.Int63n(9))
		}
		if odds.CheckChances(more, chances) == api.OK && odds.CheckChances(m, chances) != api.OK {
			t.Fatal(more, chances)
		}
	}
}

// P4.14
func TestNetsAreAsManyTimesAsGreat(t *testing.T) {
	rng := rand.New(rand.NewSource(54))
	for range 3000 {
		m, times := randomMarket(rng), rng.Int63n(1<<30)
		var stakes, more []int64
		for range m.Quotes {
			x := rng.Int63n(1 << 10)
			stakes, more = append(stakes, x), append(more, x*times)
		}
		for runner := range m.Runners {
			net, e1 := odds.Net(m, stakes, runner)
			great, e2 := odds.Net(m, more, runner)
			if e1 != api.OK || e2 != api.OK || !is(great, mul(rat(net), whole(times))) {
				t.Fatal(m, stakes, times, runner, net, e1, great, e2)
			}
		}
	}
}

// someInt returns any number, often one at an end.
func someInt(r *rand.Rand) int64 {
	ends := append(slices.Clone(farthest), -1, 0, 1, 2, 5, 10, 11, 100, 190, 1000, 1000000, 1<<40, 1<<40+1, 1<<32, 1<<62)
	if r.Intn(4) == 0 {
		return int64(r.Uint64())
	}
	return ends[r.Intn(len(ends))]
}

func someList(r *rand.Rand) []int64 {
	var numbers []int64
	for range r.Intn(15) {
		numbers = append(numbers, someInt(r))
	}
	return numbers
}

func somePool(r *rand.Rand) api.OddsPool {
	if r.Intn(2) == 0 {
		return randomPool(r, r.Intn(2) == 0)
	}
	p := api.OddsPool{Cut: someInt(r)}
	for range r.Intn(10) {
		p.Stakes = append(p.Stakes, stake(someInt(r), someInt(r)))
	}
	return p
}

func someMarket(r *rand.Rand) api.OddsMarket {
	m := randomMarket(r)
	if r.Intn(2) == 0 {
		return m
	}
	if r.Intn(2) == 0 {
		m.Runners = int(someInt(r))
	}
	for i := range m.Quotes {
		if r.Intn(2) == 0 {
			m.Quotes[i] = api.OddsQuote{Runner: int(someInt(r)), Num: someInt(r), Den: someInt(r), Lay: r.Intn(2) == 0}
		}
	}
	return m
}

// answers are the results of all functions: of each the results, and its error last.
func answers(f [4]api.Ratio, p api.OddsPool, m api.OddsMarket, numbers []int64, runner, step int) [][]any {
	all := func(results ...any) []any { return results }
	of := func(a, b any) []any { return all(a, b) }
	var list [][]any
	lo, hi, e := odds.Near(f[0], step)
	list = append(list, all(lo, hi, e), all(odds.CheckNear(f[0], step, f[1], f[2])))
	list = append(list, of(odds.Round(f[0], step)), of(odds.Simplest(f[2], f[3])), all(odds.CheckPool(p)))
	lo, hi, e = odds.Span(p, runner)
	list = append(list, all(lo, hi, e))
	lo, hi, e = odds.Board(p, runner, step)
	list = append(list, all(lo, hi, e), all(odds.CheckMarket(m)), of(odds.Net(m, numbers, runner)), all(odds.CheckStakes(m, numbers)))
	return append(list, of(odds.Stakes(m)), all(odds.CheckChances(m, numbers)), of(odds.Chances(m)))
}

// isZero reports whether a result is what comes with an error.
func isZero(result any) bool {
	v := reflect.ValueOf(result)
	return v.IsZero() || v.Kind() == reflect.Slice && v.Len() == 0
}

// P1, R2, R4, R9, R10
func TestAnyArguments(t *testing.T) {
	rng := rand.New(rand.NewSource(55))
	for range 30000 {
		var f [4]api.Ratio
		for i := range f {
			f[i] = by(someInt(rng), someInt(rng))
			if rng.Intn(2) == 0 {
				f[i] = randomFraction(rng)
			}
		}
		p, m, numbers := somePool(rng), someMarket(rng), someList(rng)
		if rng.Intn(2) == 0 && len(m.Quotes) > 0 {
			numbers = make([]int64, len(m.Quotes))
		}
		runner, step := int(someInt(rng)), int(someInt(rng))
		stakes, quotes, before := slices.Clone(p.Stakes), slices.Clone(m.Quotes), slices.Clone(numbers)
		got := answers(f, p, m, numbers, runner, step)
		for _, results := range got {
			e := results[len(results)-1].(api.Errno)
			for _, result := range results[:len(results)-1] {
				if e != api.OK && !isZero(result) {
					t.Fatal(f, p, m, numbers, runner, step, results)
				}
			}
		}
		if !slices.Equal(p.Stakes, stakes) || !slices.Equal(m.Quotes, quotes) || !slices.Equal(numbers, before) {
			t.Fatal("an argument is changed", p, m, numbers)
		}
		if again := answers(f, p, m, numbers, runner, step); !reflect.DeepEqual(got, again) {
			t.Fatal(got, again)
		}
	}
}

// R3
func TestNilIsEmpty(t *testing.T) {
	for _, quotes := range [][]api.OddsQuote{nil, {}} {
		for _, stakes := range [][]int64{nil, {}} {
			m := market(2, quotes...)
			m.Quotes = quotes
			if net, e := odds.Net(m, stakes, 1); net != by(0, 1) || e != api.OK {
				t.Error(net, e)
			}
			if e := odds.CheckStakes(m, stakes); e != api.ErrSum {
				t.Error(e)
			}
			if e := odds.CheckChances(m, stakes); e != api.ErrEqual {
				t.Error(e)
			}
			if settle(t, m) {
				t.Error(m)
			}
		}
	}
	for _, stakes := range [][]api.Range{nil, {}} {
		if e := odds.CheckPool(api.OddsPool{Stakes: stakes}); e != api.ErrMany {
			t.Error(e)
		}
	}
}

// R4
func TestResultsShareNoMemory(t *testing.T) {
	for _, m := range []api.OddsMarket{marketM(), marketF()} {
		for _, ask := range []func(api.OddsMarket) ([]int64, api.Errno){odds.Stakes, odds.Chances} {
			first, _ := ask(m)
			kept := slices.Clone(first)
			for i := range first {
				first[i] = -7
			}
			if second, _ := ask(m); !slices.Equal(second, kept) {
				t.Error(m, second, kept)
			}
			if third, _ := ask(m); !slices.Equal(third, kept) {
				t.Error(m, third, kept)
			}
		}
	}
}

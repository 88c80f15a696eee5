package odds_test

import (
	"math"
	"slices"
	"testing"

	"quinella/api"
	"quinella/odds"
)

func by(num, den int64) api.Ratio { return api.Ratio{Num: num, Den: den} }

func list(numbers ...int64) []int64 { return numbers }

func stake(lo, hi int64) api.Range { return api.Range{Lo: lo, Hi: hi} }

func pool(cut int64, stakes ...api.Range) api.OddsPool { return api.OddsPool{Stakes: stakes, Cut: cut} }

// known is a pool whose stakes are known.
func known(cut int64, stakes ...int64) api.OddsPool {
	p := api.OddsPool{Cut: cut}
	for _, s := range stakes {
		p.Stakes = append(p.Stakes, stake(s, s))
	}
	return p
}

func back(runner int, num, den int64) api.OddsQuote {
	return api.OddsQuote{Runner: runner, Num: num, Den: den}
}

func lay(runner int, num, den int64) api.OddsQuote {
	return api.OddsQuote{Runner: runner, Num: num, Den: den, Lay: true}
}

func market(runners int, quotes ...api.OddsQuote) api.OddsMarket {
	return api.OddsMarket{Runners: runners, Quotes: quotes}
}

// poolP, marketM and marketF are those of the chapter's examples.
func poolP() api.OddsPool { return pool(100, stake(50, 60), stake(30, 30), stake(10, 10)) }

func marketM() api.OddsMarket { return market(2, back(0, 3, 2), back(1, 1, 1)) }

func marketF() api.OddsMarket { return market(2, back(0, 1, 1), lay(0, 3, 2), back(1, 1, 1)) }

// farthest are numbers at the ends of their type.
var farthest = []int64{math.MinInt64, math.MinInt64 + 1, math.MaxInt64 - 1, math.MaxInt64}

var none = api.Ratio{}

// badFractions are fractions that are not valid.
func badFractions() []api.Ratio {
	bad := []api.Ratio{
		by(1, 0), by(0, 0), by(1, -1), by(-1, -1), by(0, -1), by(-1, 1), by(-1, 1000000), by(1, 1000001), by(0, 1000001),
		by(1001, 1), by(2001, 2), by(1000000001, 1000000), by(1000000, 999),
	}
	for _, n := range farthest {
		bad = append(bad, by(n, 1), by(n, 1000000), by(0, n), by(1, n), by(n, n))
	}
	return bad
}

func badSteps() []int { return []int{0, -1, 101, math.MinInt, math.MaxInt} }

// P4.1
func TestNeighbours(t *testing.T) {
	for _, x := range []struct {
		r               api.Ratio
		step            int
		lo, hi, nearest api.Ratio
	}{
		{by(31, 50), 5, by(3, 5), by(2, 3), by(3, 5)},
		{by(1, 2), 5, by(1, 2), by(3, 5), by(1, 2)},
		{by(50, 100), 5, by(1, 2), by(3, 5), by(1, 2)},
		{by(3, 4), 2, by(1, 2), by(1, 1), by(1, 2)}, // both are equally near
		{by(6, 8), 2, by(1, 2), by(1, 1), by(1, 2)},
		{by(750001, 1000000), 2, by(1, 2), by(1, 1), by(1, 1)},
		{by(749999, 1000000), 2, by(1, 2), by(1, 1), by(1, 2)},
		{by(7, 2), 1, by(3, 1), by(4, 1), by(3, 1)},
		{by(0, 1), 1, by(0, 1), by(1, 1), by(0, 1)},
		{by(0, 1000000), 100, by(0, 1), by(1, 100), by(0, 1)},
		{by(1, 1000000), 100, by(0, 1), by(1, 100), by(0, 1)},
		{by(1, 200), 100, by(0, 1), by(1, 100), by(0, 1)},
		{by(5001, 1000000), 100, by(0, 1), by(1, 100), by(1, 100)},
		{by(1000, 1), 1, by(1000, 1), by(1001, 1), by(1000, 1)},
		{by(1000000000, 1000000), 100, by(1000, 1), by(100001, 100), by(1000, 1)},
		{by(999999999, 1000000), 100, by(99999, 100), by(1000, 1), by(1000, 1)},
		{by(99, 100), 100, by(99, 100), by(1, 1), by(99, 100)},
		{by(99, 100), 99, by(98, 99), by(1, 1), by(98, 99)},
		{by(22, 7), 7, by(22, 7), by(19, 6), by(22, 7)},
		{by(22, 7), 6, by(3, 1), by(19, 6), by(19, 6)},
	} {
		if lo, hi, e := odds.Near(x.r, x.step); lo != x.lo || hi != x.hi || e != api.OK {
			t.Error(x, lo, hi, e)
		}
		if e := odds.CheckNear(x.r, x.step, x.lo, x.hi); e != api.OK {
			t.Error(x, e)
		}
		if nearest, e := odds.Round(x.r, x.step); nearest != x.nearest || e != api.OK {
			t.Error(x, nearest, e)
		}
	}
}

// P4.1
func TestCheckNear(t *testing.T) {
	r := by(31, 50)
	for _, x := range []struct {
		step   int
		lo, hi api.Ratio
		e      api.Errno
	}{
		{5, by(3, 5), by(2, 3), api.OK},
		{7, by(3, 5), by(2, 3), api.OK},
		{8, by(3, 5), by(2, 3), api.ErrSum}, // 5 / 8 is between them
		{4, by(3, 5), by(2, 3), api.ErrSum}, // the Den of lo is above the step
		{4, by(1, 2), by(2, 3), api.OK},
		{3, by(1, 2), by(2, 3), api.OK},
		{2, by(1, 2), by(2, 3), api.ErrSum}, // the Den of hi is above the step
		{2, by(1, 2), by(1, 1), api.OK},
		{1, by(0, 1), by(1, 1), api.OK},
		{1, by(-1, 1), by(1, 1), api.ErrSum},
		{5, by(1, 2), by(2, 3), api.ErrSum}, // 3 / 5 is between them
		{5, by(3, 5), by(3, 4), api.ErrSum}, // 2 / 3 is between them
		{5, by(6, 10), by(2, 3), api.ErrSum},
		{10, by(6, 10), by(4, 6), api.ErrSum},
		{5, by(2, 3), by(3, 4), api.ErrSum}, // lo is greater
		{5, by(1, 2), by(3, 5), api.ErrSum}, // hi is not greater
		{5, by(2, 3), by(3, 5), api.ErrSum},
		{5, by(3, 0), by(2, 3), api.ErrSum},
		{5, by(3, 5), by(2, 0), api.ErrSum},
		{5, by(1, 0), by(1, 0), api.ErrSum},
		{5, by(-3, -5), by(2, 3), api.ErrSum},
		{5, by(3, 5), by(-2, -3), api.ErrSum},
		{5, none, none, api.ErrSum},
	} {
		if e := odds.CheckNear(r, x.step, x.lo, x.hi); e != x.e {
			t.Error(x, e)
		}
	}
	// A fraction of the ladder is its own lo, and not its own hi.
	if e := odds.CheckNear(by(2, 3), 5, by(3, 5), by(2, 3)); e != api.ErrSum {
		t.Error(e)
	}
	if e := odds.CheckNear(by(2, 3), 5, by(2, 3), by(3, 4)); e != api.OK {
		t.Error(e)
	}
	// These have all of it but that Num is from 0 on.
	if e := odds.CheckNear(by(0, 1), 1, by(-1, 1), by(0, 1)); e != api.ErrSum {
		t.Error(e)
	}
	for _, n := range farthest {
		for _, x := range [][2]api.Ratio{
			{by(n, 5), by(2, 3)}, {by(3, 5), by(n, 3)}, {by(3, n), by(2, 3)}, {by(3, 5), by(2, n)}, {by(n, 5), by(n, 3)}, {by(n, n), by(n, n)},
		} {
			if e := odds.CheckNear(r, 5, x[0], x[1]); e != api.ErrSum {
				t.Error(x, e)
			}
		}
	}
}

// Were products taken round at 2^64, these would be proofs, as those before them are. (P4.1)
func TestCheckNearWithNumbersThatGoRound(t *testing.T) {
	for _, x := range []struct {
		r      api.Ratio
		lo, hi api.Ratio
		e      api.Errno
	}{
		{by(5, 8), by(1, 2), by(2, 3), api.OK},
		{by(5, 8), by(1+1<<62, 2), by(2+3<<61, 3), api.ErrSum},
		{by(17, 24), by(2, 3), by(3, 4), api.OK},
		{by(17, 24), by(2+1<<62, 3), by(3, 4), api.ErrSum},
		{by(9, 32), by(1, 4), by(1, 3), api.OK},
		{by(9, 32), by(1, 4), by(1+1<<62, 3), api.ErrSum},
	} {
		if e := odds.CheckNear(x.r, 4, x.lo, x.hi); e != x.e {
			t.Error(x, e)
		}
	}
}

// P4.1
func TestErrorsOfFractions(t *testing.T) {
	check := func(r api.Ratio, step int, want api.Errno) {
		t.Helper()
		if lo, hi, e := odds.Near(r, step); lo != none || hi != none || e != want {
			t.Error(r, step, lo, hi, e)
		}
		if nearest, e := odds.Round(r, step); nearest != none || e != want {
			t.Error(r, step, nearest, e)
		}
		for _, lo := range []api.Ratio{by(0, 1), by(3, 5), none} {
			if e := odds.CheckNear(r, step, lo, by(1, 1)); e != want {
				t.Error(r, step, lo, e)
			}
		}
	}
	for _, r := range badFractions() {
		for _, step := range append(badSteps(), 1, 5, 100) {
			check(r, step, api.ErrRange)
		}
	}
	for _, step := range badSteps() {
		check(by(1, 2), step, api.ErrArg)
	}
}

// P4.2
func TestSimplest(t *testing.T) {
	for _, x := range []struct{ lo, hi, simplest api.Ratio }{
		{by(31, 50), by(33, 50), by(5, 8)},
		{by(1, 3), by(7, 2), by(1, 1)},
		{by(0, 3), by(7, 2), by(0, 1)},
		{by(1, 1), by(3, 1), by(1, 1)},
		{by(5, 2), by(8, 3), by(5, 2)},
		{by(51, 20), by(8, 3), by(8, 3)},
		{by(51, 20), by(53, 20), by(13, 5)},
		{by(2, 4), by(2, 4), by(1, 2)},
		{by(1, 4), by(3, 4), by(1, 2)},
		{by(1, 5), by(2, 5), by(1, 3)},
		{by(6, 4), by(7, 4), by(3, 2)},
		{by(314, 100), by(315, 100), by(22, 7)},
		{by(0, 1000000), by(0, 1), by(0, 1)},
		{by(1, 1000000), by(2, 1000000), by(1, 500000)},
		{by(1, 1000000), by(1, 1000000), by(1, 1000000)},
		{by(1, 1000000), by(1, 999999), by(1, 999999)},
		{by(999999, 1000000), by(999999, 1000000), by(999999, 1000000)},
		{by(999998, 999999), by(999999, 1000000), by(999998, 999999)},
		{by(999999999, 1000000), by(1000, 1), by(1000, 1)},
		{by(999999998, 1000000), by(999999999, 1000000), by(499999999, 500000)},
		{by(1000, 1), by(1000000000, 1000000), by(1000, 1)},
		{by(610000, 987000), by(610, 987), by(610, 987)},
	} {
		if simplest, e := odds.Simplest(x.lo, x.hi); simplest != x.simplest || e != api.OK {
			t.Error(x, simplest, e)
		}
	}
}

// P4.2
func TestErrorsOfBounds(t *testing.T) {
	for _, r := range badFractions() {
		for _, x := range [][2]api.Ratio{{r, by(1000, 1)}, {by(0, 1), r}, {r, r}, {by(1000, 1), r}, {r, by(0, 1)}} {
			if simplest, e := odds.Simplest(x[0], x[1]); simplest != none || e != api.ErrRange {
				t.Error(x, simplest, e)
			}
		}
	}
	for _, x := range [][2]api.Ratio{
		{by(2, 3), by(1, 2)}, {by(1, 1), by(0, 1)}, {by(1000000000, 1000000), by(999999999, 1000000)}, {by(1, 999999), by(1, 1000000)},
	} {
		if simplest, e := odds.Simplest(x[0], x[1]); simplest != none || e != api.ErrRange {
			t.Error(x, simplest, e)
		}
	}
}

type badPool struct {
	p api.OddsPool
	e api.Errno
}

// badPools are pools that are not valid, with their errors.
func badPools() []badPool {
	bad := []badPool{
		{api.OddsPool{}, api.ErrMany},
		{api.OddsPool{Cut: -1}, api.ErrMany}, // before ErrRange
		{known(0, 1, 1, 1, 1, 1, 1, 1, 1, 1), api.ErrMany},
		{known(501, 1, -1, 1, 1, 1, 1, 1, 1, 1), api.ErrMany}, // before ErrRange
		{pool(0, stake(2, 1)), api.ErrRange},
		{pool(0, stake(1, 0)), api.ErrRange},
		{pool(0, stake(-1, 1)), api.ErrRange},
		{pool(0, stake(-2, -1)), api.ErrRange},
		{pool(0, stake(1, 1000001)), api.ErrRange},
		{pool(0, stake(1000001, 1000001)), api.ErrRange},
		{pool(0, stake(1, 1), stake(1, 2), stake(4, 3)), api.ErrRange},
		{known(501, 1), api.ErrRange},
		{known(-1, 1), api.ErrRange},
	}
	for _, n := range farthest {
		bad = append(bad, badPool{pool(0, stake(n, 5)), api.ErrRange}, badPool{pool(0, stake(5, n)), api.ErrRange},
			badPool{pool(0, stake(5, 5), stake(n, n)), api.ErrRange}, badPool{known(n, 5), api.ErrRange})
	}
	return bad
}

// P4.3
func TestCheckPool(t *testing.T) {
	for _, p := range []api.OddsPool{
		poolP(), known(0, 0), known(500, 1000000), pool(0, stake(0, 1000000)), known(1, 1, 2, 3, 4, 5, 6, 7, 8),
		pool(499, stake(999999, 1000000), stake(0, 0)),
	} {
		if e := odds.CheckPool(p); e != api.OK {
			t.Error(p, e)
		}
	}
	for _, x := range badPools() {
		if e := odds.CheckPool(x.p); e != x.e {
			t.Error(x, e)
		}
	}
}

// P4.4
func TestErrorsOfPools(t *testing.T) {
	check := func(p api.OddsPool, runner, step int, span, board api.Errno) {
		t.Helper()
		if least, greatest, e := odds.Span(p, runner); e != span || e != api.OK && (least != none || greatest != none) {
			t.Error(p, runner, least, greatest, e)
		}
		if least, greatest, e := odds.Board(p, runner, step); e != board || e != api.OK && (least != none || greatest != none) {
			t.Error(p, runner, step, least, greatest, e)
		}
	}
	strangers := []int{-1, 3, 8, math.MinInt, math.MaxInt}
	for _, x := range badPools() {
		for _, runner := range append(strangers, 0) {
			for _, step := range append(badSteps(), 5) {
				check(x.p, runner, step, x.e, x.e)
			}
		}
	}
	unsure := pool(100, stake(0, 60), stake(0, 0), stake(10, 10))
	for _, p := range []api.OddsPool{poolP(), unsure} {
		for _, runner := range strangers {
			for _, step := range append(badSteps(), 5) {
				check(p, runner, step, api.ErrArg, api.ErrArg)
			}
		}
	}
	for _, step := range badSteps() {
		check(poolP(), 0, step, api.OK, api.ErrArg)
		check(unsure, 0, step, api.ErrOdds, api.ErrArg)
		check(unsure, 1, step, api.ErrOdds, api.ErrArg)
	}
	check(unsure, 0, 5, api.ErrOdds, api.ErrOdds)
	check(unsure, 1, 1, api.ErrOdds, api.ErrOdds)
	check(unsure, 2, 100, api.OK, api.OK)
}

// P4.4
func TestSpanAndBoard(t *testing.T) {
	million := stake(1000000, 1000000)
	full := pool(0, stake(1, 1000000), million, million, million, million, million, million, million)
	for _, x := range []struct {
		p               api.OddsPool
		runner, step    int
		least, greatest api.Ratio
		low, high       api.Ratio // on the board
	}{
		{poolP(), 0, 5, by(1, 2), by(31, 50), by(1, 2), by(3, 5)},
		{poolP(), 1, 5, by(17, 10), by(2, 1), by(5, 3), by(2, 1)},
		{poolP(), 2, 5, by(71, 10), by(8, 1), by(7, 1), by(8, 1)},
		{poolP(), 2, 10, by(71, 10), by(8, 1), by(71, 10), by(8, 1)},
		{known(0, 20, 30), 1, 3, by(2, 3), by(2, 3), by(2, 3), by(2, 3)},
		{known(0, 20, 30), 1, 1, by(2, 3), by(2, 3), by(0, 1), by(0, 1)},
		{known(0, 5), 0, 9, by(0, 1), by(0, 1), by(0, 1), by(0, 1)},
		{known(1, 5), 0, 9, by(0, 1), by(0, 1), by(0, 1), by(0, 1)},            // below 0
		{known(500, 1000, 1000), 0, 9, by(0, 1), by(0, 1), by(0, 1), by(0, 1)}, // just 0
		{known(500, 1000, 1001), 0, 9, by(1, 2000), by(1, 2000), by(0, 1), by(0, 1)},
		{known(500, 1000, 999), 0, 9, by(0, 1), by(0, 1), by(0, 1), by(0, 1)},
		{pool(0, stake(0, 9), stake(5, 5)), 1, 9, by(0, 1), by(9, 5), by(0, 1), by(9, 5)},
		{pool(0, stake(0, 0), stake(1, 5)), 1, 9, by(0, 1), by(0, 1), by(0, 1), by(0, 1)},
		{known(0, 1, 1000), 0, 9, by(1000, 1), by(1000, 1), by(1000, 1), by(1000, 1)},
		{known(0, 1000, 1000000, 1), 0, 9, by(1000001, 1000), by(1000001, 1000), by(1000, 1), by(1000, 1)},
		{known(0, 1000, 999999), 0, 100, by(999999, 1000), by(999999, 1000), by(99999, 100), by(99999, 100)},
		{known(0, 1, 5000), 0, 9, by(5000, 1), by(5000, 1), by(1000, 1), by(1000, 1)},
		{full, 0, 100, by(7, 1), by(7000000, 1), by(7, 1), by(1000, 1)},
		{full, 1, 100, by(6000001, 1000000), by(7, 1), by(6, 1), by(7, 1)},
		{pool(500, full.Stakes...), 0, 100, by(3, 1), by(6999999, 2), by(3, 1), by(1000, 1)},
		{pool(0, million, stake(0, 1)), 0, 100, by(0, 1), by(1, 1000000), by(0, 1), by(0, 1)},
	} {
		if least, greatest, e := odds.Span(x.p, x.runner); least != x.least || greatest != x.greatest || e != api.OK {
			t.Error(x, least, greatest, e)
		}
		if low, high, e := odds.Board(x.p, x.runner, x.step); low != x.low || high != x.high || e != api.OK {
			t.Error(x, low, high, e)
		}
	}
}

type badMarket struct {
	m api.OddsMarket
	e api.Errno
}

// badMarkets are markets that are not valid, with their errors.
func badMarkets() []badMarket {
	bad := []badMarket{
		{market(0), api.ErrMany},
		{market(-1), api.ErrMany},
		{market(6), api.ErrMany},
		{market(math.MinInt), api.ErrMany},
		{market(math.MaxInt), api.ErrMany},
		{market(0, back(0, 1, 1)), api.ErrMany},  // before ErrArg
		{market(6, back(6, -1, 0)), api.ErrMany}, // before ErrArg and ErrRange
		{market(1, slices.Repeat([]api.OddsQuote{back(0, 1, 1)}, 13)...), api.ErrMany},
		{market(1, slices.Repeat([]api.OddsQuote{back(9, -1, 0)}, 13)...), api.ErrMany}, // before ErrArg and ErrRange
		{market(2, back(2, 1, 1)), api.ErrArg},
		{market(2, back(-1, 1, 1)), api.ErrArg},
		{market(5, back(5, 1, 1)), api.ErrArg},
		{market(2, back(math.MinInt, 1, 1)), api.ErrArg},
		{market(2, lay(math.MaxInt, 1, 1)), api.ErrArg},
		{market(2, back(0, 1, 0), back(2, 1, 1)), api.ErrArg}, // of a later quote, but before ErrRange
		{market(2, back(1, 1, 1), lay(0, 191, 1), lay(-1, 191, 1)), api.ErrArg},
	}
	for _, q := range []api.OddsQuote{
		back(0, 191, 1), back(0, 191, 10), back(0, -1, 1), back(0, 1, 0), back(0, 1, 11), back(0, 1, -1), back(0, 0, 0), back(0, -1, -1),
	} {
		bad = append(bad, badMarket{market(1, q), api.ErrRange})
		q.Lay = true
		bad = append(bad, badMarket{market(2, back(1, 1, 1), q), api.ErrRange})
	}
	for _, n := range farthest {
		bad = append(bad, badMarket{market(1, back(0, n, 1)), api.ErrRange}, badMarket{market(1, lay(0, 1, n)), api.ErrRange},
			badMarket{market(1, back(0, n, n)), api.ErrRange})
	}
	return bad
}

// P4.5
func TestCheckMarket(t *testing.T) {
	for _, m := range []api.OddsMarket{
		marketM(), marketF(), market(1), market(5), market(5, back(4, 190, 10), lay(0, 0, 1), back(4, 190, 10)),
		market(1, slices.Repeat([]api.OddsQuote{lay(0, 0, 10)}, 12)...),
	} {
		if e := odds.CheckMarket(m); e != api.OK {
			t.Error(m, e)
		}
	}
	for _, x := range badMarkets() {
		if e := odds.CheckMarket(x.m); e != x.e {
			t.Error(x, e)
		}
	}
}

// P4.5, P4.6, P4.7: the errors of markets come first.
func TestErrorsOfMarkets(t *testing.T) {
	for _, x := range badMarkets() {
		for _, numbers := range [][]int64{nil, list(1), list(-1, 1<<41), make([]int64, len(x.m.Quotes)), make([]int64, 20)} {
			for _, runner := range []int{0, -1, 9} {
				if net, e := odds.Net(x.m, numbers, runner); net != none || e != x.e {
					t.Error(x, numbers, net, e)
				}
			}
			if e := odds.CheckStakes(x.m, numbers); e != x.e {
				t.Error(x, numbers, e)
			}
			if e := odds.CheckChances(x.m, numbers); e != x.e {
				t.Error(x, numbers, e)
			}
		}
		if stakes, e := odds.Stakes(x.m); len(stakes) > 0 || e != x.e {
			t.Error(x, stakes, e)
		}
		if chances, e := odds.Chances(x.m); len(chances) > 0 || e != x.e {
			t.Error(x, chances, e)
		}
	}
}

// P4.5, P4.6
func TestErrorsOfStakes(t *testing.T) {
	m := marketM()
	check := func(stakes []int64, runner int, net, surely api.Errno) {
		t.Helper()
		if r, e := odds.Net(m, stakes, runner); e != net || e != api.OK && r != none {
			t.Error(stakes, runner, r, e)
		}
		if e := odds.CheckStakes(m, stakes); e != surely {
			t.Error(stakes, e)
		}
	}
	strangers := []int{-1, 2, 5, math.MinInt, math.MaxInt}
	for _, runner := range append(strangers, 0) {
		for _, stakes := range [][]int64{nil, list(4), list(4, 5, 0), list(-1), list(-1, 5, 5), list(1<<41, 5, 5)} {
			check(stakes, runner, api.ErrEqual, api.ErrEqual)
		}
		for _, n := range append(farthest, -1, 1<<40+1) {
			check(list(n, 5), runner, api.ErrRange, api.ErrRange)
			check(list(4, n), runner, api.ErrRange, api.ErrRange)
		}
	}
	for _, runner := range strangers {
		check(list(4, 5), runner, api.ErrArg, api.OK)
		check(list(5, 5), runner, api.ErrArg, api.ErrSum)
	}
	check(list(1<<40, 1<<40), 0, api.OK, api.ErrSum)
	check(list(4<<37, 5<<37), 0, api.OK, api.OK)
}

// P4.5, P4.6
func TestNet(t *testing.T) {
	twelve := slices.Repeat([]api.OddsQuote{back(0, 190, 1)}, 12)
	against := slices.Repeat([]api.OddsQuote{lay(0, 190, 1)}, 12)
	all := slices.Repeat(list(1<<40), 12)
	for _, x := range []struct {
		m      api.OddsMarket
		stakes []int64
		nets   []api.Ratio
		e      api.Errno // of CheckStakes
	}{
		{marketM(), list(4, 5), []api.Ratio{by(1, 1), by(1, 1)}, api.OK},
		{marketM(), list(5, 5), []api.Ratio{by(5, 2), by(0, 1)}, api.ErrSum},
		{marketM(), list(2, 3), []api.Ratio{by(0, 1), by(1, 1)}, api.ErrSum},
		{marketM(), list(0, 0), []api.Ratio{by(0, 1), by(0, 1)}, api.ErrSum},
		{marketF(), list(2, 2, 2), []api.Ratio{by(-3, 1), by(2, 1)}, api.ErrSum},
		{market(3, back(0, 7, 3), lay(1, 3, 7), back(2, 1, 10)), list(1, 1, 1), []api.Ratio{by(7, 3), by(-17, 7), by(1, 10)}, api.ErrSum},
		{market(2, back(0, 1, 7), back(0, 1, 8), back(0, 1, 9), back(0, 1, 10)), list(1, 1, 1, 1), []api.Ratio{by(1207, 2520), by(-4, 1)}, api.ErrSum},
		{market(2, lay(0, 1, 7), lay(0, 1, 8), lay(0, 1, 9), lay(0, 1, 10)), list(1, 1, 1, 1), []api.Ratio{by(-1207, 2520), by(4, 1)}, api.ErrSum},
		{market(1), nil, []api.Ratio{by(0, 1)}, api.ErrSum},
		{market(1, back(0, 190, 1)), list(1 << 40), []api.Ratio{by(190<<40, 1)}, api.OK},
		{market(1, lay(0, 0, 1)), list(1 << 40), []api.Ratio{by(0, 1)}, api.ErrSum},
		{market(2, lay(0, 0, 1)), list(3), []api.Ratio{by(0, 1), by(3, 1)}, api.ErrSum},
		{market(1, back(0, 4, 5), back(0, 5, 7), back(0, 3, 8), back(0, 1, 9), lay(0, 2, 1)), list(1, 1, 1, 1, 1), []api.Ratio{by(1, 2520)}, api.OK},
		{market(1, lay(0, 4, 5), lay(0, 5, 7), lay(0, 3, 8), lay(0, 1, 9), back(0, 2, 1)), list(1, 1, 1, 1, 1), []api.Ratio{by(-1, 2520)}, api.ErrSum},
		{market(2, twelve...), all, []api.Ratio{by(12*190<<40, 1), by(-12<<40, 1)}, api.ErrSum},
		{market(2, against...), all, []api.Ratio{by(-12*190<<40, 1), by(12<<40, 1)}, api.ErrSum},
		{market(1, twelve...), all, []api.Ratio{by(12*190<<40, 1)}, api.OK},
	} {
		for runner, want := range x.nets {
			if net, e := odds.Net(x.m, x.stakes, runner); net != want || e != api.OK {
				t.Error(x, runner, net, e)
			}
		}
		if e := odds.CheckStakes(x.m, x.stakes); e != x.e {
			t.Error(x, e)
		}
	}
}

// P4.6, P4.7
func TestStakesAndChances(t *testing.T) {
	long := []api.OddsQuote{back(0, 190, 10), back(1, 189, 10), back(2, 187, 10), back(3, 183, 10)}
	for _, x := range []struct {
		m    api.OddsMarket
		sure bool
	}{
		{marketM(), true},
		{marketF(), false},
		{market(1), false},
		{market(5), false},
		{market(1, back(0, 0, 1)), false},
		{market(1, back(0, 1, 10)), true},
		{market(1, lay(0, 0, 1)), false},
		{market(1, lay(0, 190, 1)), false},
		{market(1, lay(0, 0, 1), back(0, 0, 1)), false},
		{market(1, lay(0, 2, 1), back(0, 1, 1)), true},
		// bought for more than it is sold
		{market(3, back(2, 5, 1), lay(2, 4, 1)), true},
		{market(3, back(2, 5, 1), lay(2, 5, 1)), false},
		{market(3, back(2, 5, 1), lay(2, 10, 2)), false},
		{market(3, back(2, 4, 1), lay(2, 5, 1)), false},
		{market(3, back(2, 3, 1), back(2, 5, 1), lay(2, 9, 1), lay(2, 4, 1)), true},
		{market(3, lay(2, 4, 1), lay(2, 9, 1), back(2, 5, 1), back(2, 3, 1)), true},
		{market(2, back(1, 190, 9), lay(1, 190, 10)), true},
		{market(2, back(1, 1, 10), lay(1, 0, 1)), true},
		// all are sold
		{market(2, lay(0, 1, 2), lay(1, 1, 2)), true},
		{market(3, lay(0, 1, 2), lay(2, 1, 2)), true},
		{market(3, lay(0, 1, 1), lay(2, 1, 1)), false},
		{market(3, lay(0, 1, 1), lay(2, 1, 1), lay(1, 190, 1)), true},
		{market(2, lay(0, 0, 1), lay(1, 0, 1)), true},
		{market(2, lay(0, 0, 1), lay(1, 190, 1)), true},
		{market(3, lay(0, 2, 1), lay(1, 2, 1), lay(2, 2, 1)), false},
		{market(3, lay(0, 2, 1), lay(1, 2, 1), lay(2, 19, 10)), true},
		// all are bought
		{market(2, back(0, 190, 1)), false},
		{market(3, back(0, 9, 1), back(1, 9, 1)), false},
		{market(3, back(0, 9, 1), back(1, 9, 1), back(2, 1, 3)), true},
		{market(3, back(0, 9, 1), back(1, 9, 1), back(2, 1, 4)), false},
		{market(3, back(0, 2, 1), back(1, 2, 1), back(2, 2, 1)), false},
		{market(3, back(0, 2, 1), back(1, 2, 1), back(2, 21, 10)), true},
		{market(5, append(slices.Clip(long), back(4, 181, 10))...), true},
		{market(5, append(slices.Clip(long), back(4, 1, 10))...), false},
		{market(5, append(slices.Clip(long), back(4, 1, 4))...), false},
		{market(5, append(slices.Clip(long), back(4, 1, 3))...), true},
		// some are sold and some are bought
		{market(2, lay(0, 1, 2), back(1, 1, 1)), false},
		{market(2, lay(0, 1, 2), back(1, 2, 1)), false},
		{market(2, lay(0, 1, 2), back(1, 3, 1)), false},
		{market(3, back(0, 1, 1), lay(1, 1, 1), back(2, 3, 1)), false},
	} {
		stakes, e1 := odds.Stakes(x.m)
		chances, e2 := odds.Chances(x.m)
		if x.sure && (e1 != api.OK || e2 != api.ErrOdds || odds.CheckStakes(x.m, stakes) != api.OK || len(chances) != 0) {
			t.Error(x, stakes, e1, chances, e2)
		}
		if !x.sure && (e1 != api.ErrNone || e2 != api.OK || odds.CheckChances(x.m, chances) != api.OK || len(stakes) != 0) {
			t.Error(x, stakes, e1, chances, e2)
		}
	}
}

// P4.7
func TestCheckChances(t *testing.T) {
	two, strict := market(2), market(2, lay(0, 0, 1))
	for _, x := range []struct {
		m       api.OddsMarket
		chances []int64
		e       api.Errno
	}{
		{marketF(), list(1, 1), api.OK},
		{marketF(), list(7, 7), api.OK},
		{marketF(), list(1<<39, 1<<39), api.OK},
		{marketF(), list(2, 3), api.ErrOdds},
		{marketF(), list(3, 2), api.ErrOdds},
		{marketF(), list(1<<39, 1<<39-1), api.ErrOdds},
		{marketM(), list(1, 1), api.ErrOdds},
		{market(2, lay(0, 3, 2)), list(2, 3), api.OK},
		{market(2, lay(0, 3, 2)), list(199, 301), api.ErrOdds},
		{market(2, lay(0, 3, 2)), list(201, 299), api.OK},
		{market(2, back(0, 3, 2)), list(2, 3), api.OK},
		{market(2, back(0, 3, 2)), list(201, 299), api.ErrOdds},
		{market(2, back(0, 3, 2)), list(199, 301), api.OK},
		{market(2, back(0, 3, 2), back(0, 2, 1)), list(2, 3), api.ErrOdds}, // the later one is not fair
		{market(2, back(0, 2, 1), back(0, 3, 2)), list(2, 3), api.ErrOdds},
		{two, list(0, 1), api.OK},
		{two, list(0, 1<<40), api.OK},
		{two, list(1<<40-1, 1), api.OK},
		{strict, list(1<<40, 0), api.OK},
		{strict, list(1<<40-1, 1), api.ErrOdds},
		{strict, list(0, 0), api.ErrRange}, // before ErrOdds
		{two, list(0, 0), api.ErrRange},
		{two, list(1, 1<<40), api.ErrRange},
		{two, list(1<<40, 1<<40), api.ErrRange},
		{two, list(0, 1<<40+1), api.ErrRange},
		{two, list(-1, 5), api.ErrRange},
		{two, list(5, -1), api.ErrRange},
		{two, list(-1, -1), api.ErrRange},
		{two, nil, api.ErrEqual},
		{two, list(1), api.ErrEqual},
		{two, list(1, 1, 1), api.ErrEqual},
		{two, list(-1), api.ErrEqual}, // before ErrRange
		{two, list(0, 0, 1<<41), api.ErrEqual},
		{market(1, back(0, 0, 1)), list(5), api.OK},
		{market(1, back(0, 1, 1)), list(5), api.ErrOdds},
		{market(5), list(1<<38, 1<<38, 1<<38, 1<<37, 1<<37), api.OK},
		{market(5), list(1<<38, 1<<38, 1<<38, 1<<37, 1<<37+1), api.ErrRange},
	} {
		if e := odds.CheckChances(x.m, x.chances); e != x.e {
			t.Error(x, e)
		}
	}
	for _, n := range farthest {
		for _, chances := range [][]int64{list(n, 1), list(1, n), list(n, n), list(-n, n)} {
			if e := odds.CheckChances(two, chances); e != api.ErrRange {
				t.Error(chances, e)
			}
		}
	}
}

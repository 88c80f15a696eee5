package pool_test

import (
	"math"
	"reflect"
	"slices"
	"testing"

	"quinella/api"
	"quinella/pool"
)

func list(numbers ...int) []int { return numbers }

func finish(groups ...[]int) [][]int { return groups }

func bet(first, second int, units int64) api.PoolBet {
	return api.PoolBet{First: first, Second: second, Units: units}
}

func bets(all ...api.PoolBet) []api.PoolBet { return all }

func dividend(first, second int, pence int64) api.PoolDividend {
	return api.PoolDividend{First: first, Second: second, Pence: pence}
}

func dividends(all ...api.PoolDividend) []api.PoolDividend { return all }

// with returns a book that is changed.
func with(b api.PoolBook, change func(b *api.PoolBook)) api.PoolBook {
	change(&b)
	return b
}

// out returns a book with just these runners scratched.
func out(b api.PoolBook, runners ...int) api.PoolBook {
	b.Scratched = runners
	return b
}

// toFavourite returns a book whose bets on scratched runners go to the favourite.
func toFavourite(b api.PoolBook) api.PoolBook {
	b.Favourite = true
	return b
}

func ofKind(b api.PoolBook, kind int) api.PoolBook {
	b.Kind = kind
	return b
}

// bookB and bookC are those of the chapter's examples.
func bookB() api.PoolBook {
	return api.PoolBook{Kind: api.PoolWin, Runners: 3, Bets: bets(bet(0, -1, 5), bet(1, -1, 3), bet(2, -1, 2)), Duty: 100, Step: 10}
}

func bookC() api.PoolBook {
	return api.PoolBook{Kind: api.PoolPair, Runners: 3, Bets: bets(bet(0, 1, 2), bet(1, 0, 3)), Carried: 50, Step: 10}
}

// bookD is of pairs in any order, with each of them bet on.
func bookD() api.PoolBook {
	return api.PoolBook{Kind: api.PoolBoth, Runners: 3, Bets: bets(bet(0, 1, 1), bet(0, 2, 2), bet(1, 2, 4)), Duty: 5, Step: 1}
}

// largest is a book at all of its limits.
func largest(kind int) api.PoolBook {
	b := api.PoolBook{Kind: kind, Runners: 8, Carried: 1000000, Duty: 500, Step: 100}
	second := -1
	if kind == api.PoolPair || kind == api.PoolBoth {
		second = 7
	}
	b.Bets = slices.Repeat(bets(bet(6, second, 1000)), 100)
	return b
}

// badBooks are books that are not valid, with their errors.
func badBooks() []badBook {
	bad := []badBook{
		{ofKind(bookB(), -1), api.ErrArg},
		{ofKind(bookB(), 4), api.ErrArg},
		{ofKind(bookB(), math.MaxInt), api.ErrArg},
		{ofKind(bookB(), math.MinInt), api.ErrArg},
		{api.PoolBook{Kind: 4}, api.ErrArg}, // before ErrRange
		{api.PoolBook{}, api.ErrRange},
		{with(bookB(), func(b *api.PoolBook) { b.Bets = make([]api.PoolBet, 101) }), api.ErrMany},
		{with(bookB(), func(b *api.PoolBook) { b.Bets = slices.Repeat(b.Bets[:1], 101) }), api.ErrMany},
		{with(bookB(), func(b *api.PoolBook) { b.Bets, b.Step = make([]api.PoolBet, 101), 0 }), api.ErrRange}, // before ErrMany
	}
	for _, runners := range []int{1, 0, -1, 9, math.MaxInt, math.MinInt} {
		bad = append(bad, badBook{with(bookB(), func(b *api.PoolBook) { b.Runners = runners }), api.ErrRange})
	}
	for _, n := range []int64{-1, 1000001, math.MaxInt64, math.MinInt64} {
		bad = append(bad,
			badBook{with(bookB(), func(b *api.PoolBook) { b.Carried = n }), api.ErrRange},
			badBook{with(bookB(), func(b *api.PoolBook) { b.Duty = n }), api.ErrRange},
			badBook{with(bookB(), func(b *api.PoolBook) { b.Step = n }), api.ErrRange})
	}
	bad = append(bad,
		badBook{with(bookB(), func(b *api.PoolBook) { b.Duty = 501 }), api.ErrRange},
		badBook{with(bookB(), func(b *api.PoolBook) { b.Step = 0 }), api.ErrRange},
		badBook{with(bookB(), func(b *api.PoolBook) { b.Step = 101 }), api.ErrRange})
	for _, x := range badBets {
		bad = append(bad,
			badBook{with(ofKind(bookB(), x.kind), func(b *api.PoolBook) { b.Bets = bets(x.bet) }), api.ErrRule},
			badBook{with(ofKind(bookB(), x.kind), func(b *api.PoolBook) { // before ErrEqual; the bets before it are right
				b.Bets = append(goodBets(x.kind), x.bet)
				b.Scratched = list(2, 1)
			}), api.ErrRule})
	}
	for _, scratched := range [][]int{
		list(0, 1), list(0, 1, 2), list(3), list(-1), list(1, 0), list(1, 1), list(math.MaxInt), list(math.MinInt), list(-1, 1, 2, 3),
	} {
		bad = append(bad, badBook{out(bookB(), scratched...), api.ErrEqual})
	}
	for _, scratched := range [][]int{
		list(0, 0), list(3, 2), list(5, 6, 6), list(5, 6, 8), list(-1, 0), list(0, 1, 2, 3, 4, 5, 6), list(0, 1, 2, 3, 4, 5, 6, 7),
	} {
		bad = append(bad, badBook{out(largest(api.PoolPair), scratched...), api.ErrEqual})
	}
	return bad
}

type badBook struct {
	b api.PoolBook
	e api.Errno
}

// badBets are bets that are none of a book of 3 runners of that Kind.
var badBets = []struct {
	kind int
	bet  api.PoolBet
}{
	{api.PoolWin, bet(0, -1, 0)},
	{api.PoolWin, bet(0, -1, -1)},
	{api.PoolWin, bet(0, -1, 1001)},
	{api.PoolWin, bet(0, -1, math.MaxInt64)},
	{api.PoolWin, bet(0, -1, math.MinInt64)},
	{api.PoolWin, bet(-1, -1, 1)},
	{api.PoolWin, bet(3, -1, 1)},
	{api.PoolWin, bet(math.MaxInt, -1, 1)},
	{api.PoolWin, bet(math.MinInt, -1, 1)},
	{api.PoolWin, bet(0, 0, 1)},
	{api.PoolWin, bet(0, 1, 1)},
	{api.PoolWin, bet(0, -2, 1)},
	{api.PoolWin, bet(0, math.MaxInt, 1)},
	{api.PoolPlace, bet(0, -1, 0)},
	{api.PoolPlace, bet(0, -1, 1001)},
	{api.PoolPlace, bet(3, -1, 1)},
	{api.PoolPlace, bet(-1, -1, 1)},
	{api.PoolPlace, bet(0, 1, 1)},
	{api.PoolPlace, bet(1, 0, 1)},
	{api.PoolPair, bet(0, 1, 0)},
	{api.PoolPair, bet(0, 1, 1001)},
	{api.PoolPair, bet(0, -1, 1)},
	{api.PoolPair, bet(0, 3, 1)},
	{api.PoolPair, bet(3, 0, 1)},
	{api.PoolPair, bet(-1, 0, 1)},
	{api.PoolPair, bet(1, 1, 1)},
	{api.PoolPair, bet(1, math.MinInt, 1)},
	{api.PoolBoth, bet(0, 1, 0)},
	{api.PoolBoth, bet(0, 1, 1001)},
	{api.PoolBoth, bet(0, -1, 1)},
	{api.PoolBoth, bet(0, 3, 1)},
	{api.PoolBoth, bet(-1, 0, 1)},
	{api.PoolBoth, bet(1, 1, 1)},
	{api.PoolBoth, bet(1, 0, 1)},
	{api.PoolBoth, bet(2, 1, 1)},
	{api.PoolBoth, bet(math.MinInt, 1, 1)},
	{api.PoolBoth, bet(math.MaxInt, 1, 1)},
}

// goodBets are bets of a book of 3 runners of that Kind.
func goodBets(kind int) []api.PoolBet {
	switch kind {
	case api.PoolPair:
		return bets(bet(2, 0, 1), bet(0, 1, 1000))
	case api.PoolBoth:
		return bets(bet(0, 2, 1), bet(1, 2, 1000))
	}
	return bets(bet(0, -1, 1), bet(2, -1, 1000))
}

// P3.1
func TestCheckBook(t *testing.T) {
	for i, b := range []api.PoolBook{
		bookB(), bookC(), bookD(), ofKind(bookB(), api.PoolPlace),
		{Runners: 2, Step: 1},
		{Runners: 8, Step: 100, Duty: 500, Carried: 1000000, Kind: api.PoolBoth, Favourite: true},
		largest(api.PoolWin), largest(api.PoolPlace), largest(api.PoolPair), largest(api.PoolBoth),
		with(bookB(), func(b *api.PoolBook) { b.Bets = goodBets(b.Kind) }),
		with(bookC(), func(b *api.PoolBook) { b.Bets = goodBets(b.Kind) }),
		with(bookD(), func(b *api.PoolBook) { b.Bets = goodBets(b.Kind) }),
		out(bookB(), 0), out(bookB(), 2), out(bookC(), 1), // also with bets on scratched runners
		out(largest(api.PoolWin), 0, 1, 2, 3, 4, 5), out(largest(api.PoolPair), 2, 3, 4, 5, 6, 7),
	} {
		if e := pool.CheckBook(b); e != api.OK {
			t.Error(i, e)
		}
	}
	for _, x := range badBooks() {
		if e := pool.CheckBook(x.b); e != x.e {
			t.Error(x.b, e)
		}
	}
}

func TestErrorsOfBooksComeFirst(t *testing.T) {
	for _, x := range badBooks() {
		for _, f := range [][][]int{nil, finish(list(0), list(1), list(2)), finish(list(9, -1), nil)} {
			got := map[string]api.Errno{}
			_, got["Scratch"] = pool.Scratch(x.b, -1)
			_, got["Scratch of 0"] = pool.Scratch(x.b, 0)
			_, got["Favourite"] = pool.Favourite(x.b)
			got["CheckFinish"] = pool.CheckFinish(x.b, f)
			_, got["Winners"] = pool.Winners(x.b, f)
			_, got["Dividends"] = pool.Dividends(x.b, f)
			_, got["Account"] = pool.Account(x.b, f)
			_, got["Pay"] = pool.Pay(x.b, f, -1)
			_, got["Pay of 0"] = pool.Pay(x.b, f, 0)
			_, got["Spread"] = pool.Spread(x.b)
			for name, e := range got {
				if e != x.e {
					t.Error(name, x.b, f, e)
				}
			}
		}
	}
}

// P3.2
func TestScratch(t *testing.T) {
	eight := api.PoolBook{Kind: api.PoolPair, Runners: 8, Step: 1, Favourite: true, Bets: bets(bet(3, 1, 4)), Carried: 6, Duty: 7}
	for i, x := range []struct {
		b         api.PoolBook
		runner    int
		scratched []int
		e         api.Errno
	}{
		{bookB(), 0, list(0), api.OK},
		{bookB(), 1, list(1), api.OK},
		{bookB(), 2, list(2), api.OK},
		{eight, 7, list(7), api.OK},
		{out(eight, 1, 4, 6), 0, list(0, 1, 4, 6), api.OK},
		{out(eight, 1, 4, 6), 3, list(1, 3, 4, 6), api.OK},
		{out(eight, 1, 4, 6), 7, list(1, 4, 6, 7), api.OK},
		{out(eight, 0, 1, 2, 3, 4), 6, list(0, 1, 2, 3, 4, 6), api.OK},
		{out(eight, 0, 1, 2, 3, 4, 6), 5, nil, api.ErrFull},
		{out(eight, 0, 1, 2, 3, 4, 6), 4, nil, api.ErrHave}, // before ErrFull
		{out(eight, 0, 1, 2, 3, 4, 6), 8, nil, api.ErrRange},
		{out(eight, 2), 2, nil, api.ErrHave},
		{out(bookB(), 1), 0, nil, api.ErrFull},
		{api.PoolBook{Runners: 2, Step: 1}, 0, nil, api.ErrFull},
		{api.PoolBook{Runners: 2, Step: 1}, 2, nil, api.ErrRange},
		{bookB(), 3, nil, api.ErrRange},
		{bookB(), -1, nil, api.ErrRange},
		{bookB(), math.MaxInt, nil, api.ErrRange},
		{bookB(), math.MinInt, nil, api.ErrRange},
	} {
		want := api.PoolBook{}
		if x.e == api.OK {
			want = out(x.b, x.scratched...)
		}
		if b, e := pool.Scratch(x.b, x.runner); !reflect.DeepEqual(b, want) || e != x.e {
			t.Error(i, b, e)
		}
	}
}

// P3.3
func TestFavourite(t *testing.T) {
	four := func(kind int, all ...api.PoolBet) api.PoolBook {
		return api.PoolBook{Kind: kind, Runners: 4, Step: 1, Bets: all}
	}
	win, pair, both := api.PoolWin, api.PoolPair, api.PoolBoth
	for i, x := range []struct {
		b      api.PoolBook
		runner int
	}{
		{bookB(), 0},
		{out(bookB(), 0), 1},
		{bookC(), 1},
		{out(bookB(), 1), 0},
		{toFavourite(out(bookB(), 0)), 1},
		{four(win), 0},
		{out(four(win), 0, 1), 2},
		{four(win, bet(1, -1, 3), bet(3, -1, 3)), 1}, // the first one of several
		{four(win, bet(3, -1, 3), bet(1, -1, 3)), 1}, // in whatever order they were bet on
		{four(win, bet(3, -1, 3), bet(1, -1, 4), bet(3, -1, 2)), 3}, // all bets together
		{out(four(win, bet(2, -1, 9), bet(3, -1, 1)), 2), 3},        // bets on scratched runners do not count
		{out(four(win, bet(2, -1, 9)), 2), 0},                       // nor if there are no others
		{out(four(win, bet(0, -1, 9)), 0), 1},
		{toFavourite(out(four(win, bet(0, -1, 9), bet(3, -1, 1)), 0)), 3},
		{four(pair, bet(0, 3, 4), bet(1, 3, 5)), 1}, // as First
		{four(pair, bet(0, 3, 4), bet(2, 3, 2), bet(2, 0, 3)), 2},
		{out(four(pair, bet(0, 3, 4), bet(1, 2, 1)), 3), 1}, // what is given back does not count
		{out(four(both, bet(0, 3, 4), bet(1, 2, 1)), 3), 1},
		{out(four(both, bet(0, 3, 4), bet(1, 2, 1)), 0), 1},
		{out(four(pair, bet(0, 3, 4), bet(0, 1, 2), bet(1, 2, 3)), 3), 1},
		{largest(win), 6},
		{largest(both), 6},
		{out(largest(api.PoolPlace), 6), 0},
	} {
		if runner, e := pool.Favourite(x.b); runner != x.runner || e != api.OK {
			t.Error(i, runner, e)
		}
	}
}

// badFinishes are none of book B.
var badFinishes = [][][]int{
	nil,
	finish(),
	finish(nil),
	finish(list(0), list(2)),
	finish(list(0, 2)),
	finish(list(0), list(1), list(2), nil),
	finish(nil, list(0), list(1), list(2)),
	finish(list(0), list(), list(1), list(2)),
	finish(list(0), list(1), list(3)),
	finish(list(0), list(1), list(-1)),
	finish(list(0, 1, 2, 3)),
	finish(list(-1, 0, 1, 2)),
	finish(list(0), list(1), list(2), list(3)),
	finish(list(0), list(1), list(2), list(0)),
	finish(list(0, 1), list(1, 2)),
	finish(list(0, 0), list(1), list(2)),
	finish(list(1, 0), list(2)),
	finish(list(0, 2, 1)),
	finish(list(0), list(1), list(math.MaxInt)),
	finish(list(math.MinInt), list(1), list(2)),
}

// P3.4
func TestCheckFinish(t *testing.T) {
	for _, x := range []struct {
		b api.PoolBook
		f [][]int
	}{
		{bookB(), finish(list(0), list(1), list(2))},
		{bookB(), finish(list(2), list(1), list(0))},
		{bookB(), finish(list(0, 1, 2))},
		{bookB(), finish(list(1, 2), list(0))},
		{bookB(), finish(list(2), list(0, 1))},
		{out(bookB(), 1), finish(list(2), list(0))},
		{out(bookB(), 1), finish(list(0, 2))},
		{bookC(), finish(list(2), list(0, 1))},
		{largest(api.PoolBoth), finish(list(7), list(6), list(5), list(4), list(3), list(2), list(1), list(0))},
		{largest(api.PoolBoth), finish(list(0, 1, 2, 3, 4, 5, 6, 7))},
		{out(largest(api.PoolBoth), 0, 2, 7), finish(list(4), list(1, 3, 6), list(5))},
	} {
		if e := pool.CheckFinish(x.b, x.f); e != api.OK {
			t.Error(x.f, e)
		}
	}
	for _, x := range []struct {
		b api.PoolBook
		f [][]int
	}{
		{out(bookB(), 1), finish(list(2), list(0), list(1))}, // a scratched runner is in none
		{out(bookB(), 1), finish(list(0, 1, 2))},
		{out(bookB(), 1), finish(list(2), list(1))},
		{out(bookB(), 1), finish(list(2))},
		{largest(api.PoolWin), finish(list(0, 1, 2, 3, 4, 5, 6))},
		{largest(api.PoolWin), finish(list(0, 1, 2, 3, 4, 5, 6, 7, 8))},
	} {
		if e := pool.CheckFinish(x.b, x.f); e != api.ErrHeat {
			t.Error(x.f, e)
		}
	}
}

func TestErrorsOfFinishes(t *testing.T) {
	for _, f := range badFinishes {
		for _, b := range []api.PoolBook{bookB(), bookC(), bookD(), ofKind(bookB(), api.PoolPlace), with(bookB(), func(b *api.PoolBook) { b.Bets = nil })} {
			got := map[string]api.Errno{}
			got["CheckFinish"] = pool.CheckFinish(b, f)
			_, got["Winners"] = pool.Winners(b, f)
			_, got["Dividends"] = pool.Dividends(b, f)
			_, got["Account"] = pool.Account(b, f)
			_, got["Pay"] = pool.Pay(b, f, 0)
			_, got["Pay of none"] = pool.Pay(b, f, -1) // before ErrNone
			for name, e := range got {
				if e != api.ErrHeat {
					t.Error(name, b, f, e)
				}
			}
		}
	}
}

// P3.4
func TestWinners(t *testing.T) {
	win, place, pair, both := api.PoolWin, api.PoolPlace, api.PoolPair, api.PoolBoth
	for i, x := range []struct {
		kind    int
		f       [][]int
		winners [][2]int
	}{
		{win, finish(list(2), list(0, 1), list(3)), [][2]int{{2, -1}}},
		{win, finish(list(1, 3), list(0, 2)), [][2]int{{1, -1}, {3, -1}}},
		{win, finish(list(0, 1, 2, 3)), [][2]int{{0, -1}, {1, -1}, {2, -1}, {3, -1}}},
		{place, finish(list(2), list(0, 3), list(1)), [][2]int{{0, -1}, {2, -1}, {3, -1}}}, // increasing
		{place, finish(list(3), list(1), list(0, 2)), [][2]int{{1, -1}, {3, -1}}},
		{place, finish(list(1, 3), list(0), list(2)), [][2]int{{1, -1}, {3, -1}}}, // not the second group
		{place, finish(list(0, 2, 3), list(1)), [][2]int{{0, -1}, {2, -1}, {3, -1}}},
		{pair, finish(list(2), list(0, 3), list(1)), [][2]int{{2, 0}, {2, 3}}},
		{pair, finish(list(3), list(1), list(0, 2)), [][2]int{{3, 1}}},
		{pair, finish(list(1, 3), list(0), list(2)), [][2]int{{1, 3}, {3, 1}}},
		{pair, finish(list(0, 1, 3), list(2)), [][2]int{{0, 1}, {0, 3}, {1, 0}, {1, 3}, {3, 0}, {3, 1}}},
		{both, finish(list(2), list(0, 3), list(1)), [][2]int{{0, 2}, {2, 3}}},
		{both, finish(list(3), list(0, 1), list(2)), [][2]int{{0, 3}, {1, 3}}},
		{both, finish(list(3), list(1), list(0, 2)), [][2]int{{1, 3}}},
		{both, finish(list(1, 3), list(0), list(2)), [][2]int{{1, 3}}},
		{both, finish(list(0, 1, 3), list(2)), [][2]int{{0, 1}, {0, 3}, {1, 3}}}, // each two once
	} {
		b := api.PoolBook{Kind: x.kind, Runners: 4, Step: 1}
		if winners, e := pool.Winners(b, x.f); !slices.Equal(winners, x.winners) || e != api.OK {
			t.Error(i, winners, e)
		}
	}
	for i, x := range []struct {
		b       api.PoolBook
		f       [][]int
		winners [][2]int
	}{
		{bookC(), finish(list(0, 1), list(2)), [][2]int{{0, 1}, {1, 0}}},
		{bookC(), finish(list(2), list(0), list(1)), [][2]int{{2, 0}}},
		{out(bookB(), 1), finish(list(2), list(0)), [][2]int{{2, -1}}},
		{ofKind(out(bookB(), 1), place), finish(list(2), list(0)), [][2]int{{0, -1}, {2, -1}}},
		{out(bookC(), 1), finish(list(2), list(0)), [][2]int{{2, 0}}},
		{out(bookD(), 1), finish(list(2), list(0)), [][2]int{{0, 2}}},
	} {
		if winners, e := pool.Winners(x.b, x.f); !slices.Equal(winners, x.winners) || e != api.OK {
			t.Error(i, winners, e)
		}
	}
}

// P3.5, P3.6, P3.7
func TestPayments(t *testing.T) {
	place := ofKind(bookB(), api.PoolPlace)
	outB, favB := out(bookB(), 2), toFavourite(out(bookB(), 2))
	for i, x := range []struct {
		b         api.PoolBook
		f         [][]int
		dividends []api.PoolDividend
		account   api.PoolAccount
		pays      []int64
	}{
		{bookB(), finish(list(1), list(0), list(2)), dividends(dividend(1, -1, 300)), api.PoolAccount{In: 1000, Duty: 100, Paid: 900}, []int64{0, 900, 0}},
		{bookB(), finish(list(0, 1), list(2)), dividends(dividend(0, -1, 90), dividend(1, -1, 150)), api.PoolAccount{In: 1000, Duty: 100, Paid: 900}, []int64{450, 450, 0}},
		{bookB(), finish(list(0, 2), list(1)), dividends(dividend(0, -1, 90), dividend(2, -1, 220)), api.PoolAccount{In: 1000, Duty: 100, Paid: 890, Kept: 10}, []int64{450, 0, 440}},
		{place, finish(list(1), list(0, 2)), dividends(dividend(0, -1, 60), dividend(1, -1, 100), dividend(2, -1, 150)), api.PoolAccount{In: 1000, Duty: 100, Paid: 900}, []int64{300, 300, 300}},
		{place, finish(list(0, 1), list(2)), dividends(dividend(0, -1, 90), dividend(1, -1, 150)), api.PoolAccount{In: 1000, Duty: 100, Paid: 900}, []int64{450, 450, 0}},
		{outB, finish(list(1), list(0)), dividends(dividend(1, -1, 240)), api.PoolAccount{In: 1000, Back: 200, Duty: 80, Paid: 720}, []int64{0, 720, 200}},
		{favB, finish(list(0), list(1)), dividends(dividend(0, -1, 120)), api.PoolAccount{In: 1000, Duty: 100, Paid: 840, Kept: 60}, []int64{600, 0, 240}},
		{favB, finish(list(1), list(0)), dividends(dividend(1, -1, 300)), api.PoolAccount{In: 1000, Duty: 100, Paid: 900}, []int64{0, 900, 0}},
		{ofKind(favB, api.PoolPlace), finish(list(1), list(0)), dividends(dividend(0, -1, 60), dividend(1, -1, 150)), api.PoolAccount{In: 1000, Duty: 100, Paid: 870, Kept: 30}, []int64{300, 450, 120}},
		{bookC(), finish(list(0, 1), list(2)), dividends(dividend(0, 1, 130), dividend(1, 0, 90)), api.PoolAccount{In: 550, Paid: 530, Kept: 20}, []int64{260, 270}},
		{bookC(), finish(list(0), list(1), list(2)), dividends(dividend(0, 1, 270)), api.PoolAccount{In: 550, Paid: 540, Kept: 10}, []int64{540, 0}}, // not what is bet the other way round
		{bookC(), finish(list(2), list(0), list(1)), nil, api.PoolAccount{In: 550, Over: 550}, []int64{0, 0}},
		{with(bookC(), func(b *api.PoolBook) { b.Duty = 300 }), finish(list(2), list(0), list(1)), nil, api.PoolAccount{In: 550, Duty: 150, Over: 400}, []int64{0, 0}}, // no duty on what was carried over
		{toFavourite(out(bookC(), 1)), finish(list(0), list(2)), nil, api.PoolAccount{In: 550, Back: 500, Over: 50}, []int64{200, 300}},                                // bets on two are given back
		{toFavourite(out(bookD(), 1)), finish(list(0), list(2)), dividends(dividend(0, 2, 99)), api.PoolAccount{In: 700, Back: 500, Duty: 1, Paid: 198, Kept: 1}, []int64{100, 198, 400}},
		{bookD(), finish(list(0, 1, 2)), dividends(dividend(0, 1, 232), dividend(0, 2, 116), dividend(1, 2, 58)), api.PoolAccount{In: 700, Duty: 3, Paid: 696, Kept: 1}, []int64{232, 232, 232}},
		{bookD(), finish(list(2), list(0, 1)), dividends(dividend(0, 2, 174), dividend(1, 2, 87)), api.PoolAccount{In: 700, Duty: 3, Paid: 696, Kept: 1}, []int64{0, 348, 348}},
		{with(bookB(), func(b *api.PoolBook) { b.Step = 100 }), finish(list(0, 1, 2)), dividends(dividend(0, -1, 0), dividend(1, -1, 100), dividend(2, -1, 100)), api.PoolAccount{In: 1000, Duty: 100, Paid: 500, Kept: 400}, []int64{0, 300, 200}},
		{api.PoolBook{Runners: 2, Step: 1, Carried: 9}, finish(list(0, 1)), nil, api.PoolAccount{In: 9, Over: 9}, nil},
		{api.PoolBook{Runners: 2, Step: 7, Duty: 333, Bets: bets(bet(0, -1, 1))}, finish(list(0), list(1)), dividends(dividend(0, -1, 63)), api.PoolAccount{In: 100, Duty: 33, Paid: 63, Kept: 4}, []int64{63}},
		{api.PoolBook{Runners: 2, Step: 7, Duty: 333, Bets: bets(bet(0, -1, 1))}, finish(list(1), list(0)), nil, api.PoolAccount{In: 100, Duty: 33, Over: 67}, []int64{0}},
		{api.PoolBook{Runners: 3, Step: 1, Carried: 1, Bets: bets(bet(0, -1, 1), bet(0, -1, 2), bet(1, -1, 4))}, finish(list(0, 1), list(2)), dividends(dividend(0, -1, 116), dividend(1, -1, 87)), api.PoolAccount{In: 701, Paid: 696, Kept: 5}, []int64{116, 232, 348}}, // all bets on one together
		{api.PoolBook{Runners: 3, Step: 1, Scratched: list(0), Bets: bets(bet(0, -1, 1000)), Duty: 500}, finish(list(1, 2)), nil, api.PoolAccount{In: 100000, Back: 100000}, []int64{100000}},
		{toFavourite(api.PoolBook{Runners: 3, Step: 1, Scratched: list(0), Bets: bets(bet(0, -1, 1000)), Duty: 500}), finish(list(1, 2)), dividends(dividend(1, -1, 50)), api.PoolAccount{In: 100000, Duty: 50000, Paid: 50000}, []int64{50000}}, // the favourite has no bets of its own
		{largest(api.PoolWin), finish(list(6), list(0, 1, 2, 3, 4, 5, 7)), dividends(dividend(6, -1, 0)), api.PoolAccount{In: 11000000, Duty: 5000000, Kept: 6000000}, slices.Repeat([]int64{0}, 100)},
		{with(largest(api.PoolWin), func(b *api.PoolBook) { b.Step = 55 }), finish(list(6), list(0, 1, 2, 3, 4, 5, 7)), dividends(dividend(6, -1, 55)), api.PoolAccount{In: 11000000, Duty: 5000000, Paid: 5500000, Kept: 500000}, slices.Repeat([]int64{55000}, 100)},
		{with(largest(api.PoolBoth), func(b *api.PoolBook) { b.Step = 55 }), finish(list(0, 1, 2, 3, 4, 5, 6, 7)), dividends(dividend(6, 7, 55)), api.PoolAccount{In: 11000000, Duty: 5000000, Paid: 5500000, Kept: 500000}, slices.Repeat([]int64{55000}, 100)},
		{with(largest(api.PoolWin), func(b *api.PoolBook) { b.Bets = bets(bet(6, -1, 1)) }), finish(list(6), list(0, 1, 2, 3, 4, 5, 7)), dividends(dividend(6, -1, 1000000)), api.PoolAccount{In: 1000100, Duty: 50, Paid: 1000000, Kept: 50}, []int64{1000000}},
	} {
		e := api.OK
		if x.dividends == nil {
			e = api.ErrPool
		}
		if l, got := pool.Dividends(x.b, x.f); !slices.Equal(l, x.dividends) || got != e {
			t.Error(i, l, got)
		}
		if a, e := pool.Account(x.b, x.f); a != x.account || e != api.OK {
			t.Error(i, a, e)
		}
		for k, want := range x.pays {
			if pence, e := pool.Pay(x.b, x.f, k); pence != want || e != api.OK {
				t.Error(i, k, pence, e)
			}
		}
		for _, k := range []int{-1, len(x.b.Bets), math.MaxInt, math.MinInt} {
			if pence, e := pool.Pay(x.b, x.f, k); pence != 0 || e != api.ErrNone {
				t.Error(i, k, pence, e)
			}
		}
	}
}

// fourTogether is a book of 10 units on each of the first four of five runners, and one on the last one of them.
func fourTogether(runners ...int) api.PoolBook {
	b := api.PoolBook{Runners: 8, Duty: 100, Step: 100}
	for r := range b.Runners {
		if !slices.Contains(runners, r) {
			b.Scratched = append(b.Scratched, r)
		}
	}
	for i, r := range runners {
		b.Bets = append(b.Bets, bet(r, -1, []int64{10, 10, 10, 10, 1}[i]))
	}
	return b
}

// P3.8
func TestSpread(t *testing.T) {
	for i, x := range []struct {
		b      api.PoolBook
		lo, hi int64
	}{
		{bookB(), 890, 900},
		{out(bookB(), 2), 700, 720},
		{toFavourite(out(bookB(), 2)), 840, 900},
		{bookC(), 0, 540},
		{out(bookC(), 2), 530, 540},
		{out(bookC(), 1), 0, 0}, // all is given back
		{bookD(), 696, 697},
		{with(bookB(), func(b *api.PoolBook) { b.Bets, b.Carried = nil, 1000 }), 0, 0},
		{with(bookB(), func(b *api.PoolBook) { b.Bets = b.Bets[:1] }), 0, 450},
		{toFavourite(out(with(bookB(), func(b *api.PoolBook) { b.Bets = b.Bets[:1] }), 0)), 0, 450},
		{largest(api.PoolWin), 0, 0},           // each dividend is 0
		{fourTogether(0, 1, 2, 3, 4), 0, 3600}, // 0 if just the four come in together
		{fourTogether(3, 7, 4, 0, 1), 0, 3600},
		{with(largest(api.PoolPlace), func(b *api.PoolBook) { b.Step = 60 }), 0, 6000000},
		{with(largest(api.PoolPair), func(b *api.PoolBook) { b.Step = 60 }), 0, 6000000},
		{with(largest(api.PoolBoth), func(b *api.PoolBook) { b.Step = 60 }), 0, 6000000},
	} {
		if r, e := pool.Spread(x.b); r != (api.Range{Lo: x.lo, Hi: x.hi}) || e != api.OK {
			t.Error(i, r, e)
		}
	}
}

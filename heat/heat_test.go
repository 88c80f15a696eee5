package heat_test

import (
	"math"
	"slices"
	"testing"

	"quinella/api"
	"quinella/heat"
)

func before(one, two int) api.HeatWord {
	return api.HeatWord{One: one, Two: two, Kind: api.HeatBefore}
}

func with(one, two int) api.HeatWord {
	return api.HeatWord{One: one, Two: two, Kind: api.HeatWith}
}

func noLess(one, two int) api.HeatWord {
	return api.HeatWord{One: one, Two: two, Kind: api.HeatNoLess}
}

func race(runners int, words ...api.HeatWord) api.HeatRace {
	return api.HeatRace{Runners: runners, Words: words}
}

func list(numbers ...int) []int { return numbers }

// raceH, raceJ and raceK are those of the chapter's examples.
func raceH() api.HeatRace { return race(3, before(0, 1), noLess(2, 1)) }
func raceJ() api.HeatRace { return race(3, before(0, 1), noLess(2, 1), before(1, 2)) }
func raceK() api.HeatRace { return race(3, before(0, 1), before(1, 2), before(0, 2)) }

// tied has one finish: all five together.
func tied() api.HeatRace {
	return race(5, with(0, 1), with(2, 1), noLess(2, 3), noLess(3, 4), noLess(4, 0))
}

// chain has one finish: 4 3 2 1 0.
func chain() api.HeatRace { return race(5, before(4, 3), before(3, 2), before(2, 1), before(1, 0)) }

// round has a circle of all five words, and none that is shorter.
func round() api.HeatRace {
	return race(5, noLess(0, 1), with(2, 1), noLess(2, 3), noLess(3, 4), before(4, 0))
}

// full has as many words as can be, of which ten say nothing new.
func full() api.HeatRace {
	words := []api.HeatWord{before(0, 4)}
	for range api.MaxHeatWords - 2 {
		words = append(words, noLess(0, 4))
	}
	return race(5, append(words, with(4, 2))...)
}

// farthest are numbers at the ends of their type.
var farthest = []int{math.MinInt64, math.MinInt64 + 1, math.MinInt32, math.MaxInt32, math.MaxInt64 - 1, math.MaxInt64}

type badRace struct {
	h api.HeatRace
	e api.Errno
}

// badWords are words that no race of three runners can have.
func badWords() []api.HeatWord {
	bad := []api.HeatWord{
		before(0, 0), before(1, 1), with(2, 2), noLess(0, 0), before(3, 0), before(0, 3), with(3, 0), with(0, 3), noLess(3, 0), noLess(0, 3),
		before(-1, 0), before(0, -1), with(-1, 0), noLess(0, -1), before(3, 3), before(-1, -1), before(-1, 3), before(3, -1),
		{One: 0, Two: 1, Kind: 3}, {One: 0, Two: 1, Kind: -1}, {One: 1, Two: 0, Kind: 3}, {One: 0, Two: 0, Kind: 3}, {One: 3, Two: 0, Kind: -1},
	}
	for _, n := range farthest {
		bad = append(bad, before(n, 0), before(0, n), before(n, n), with(n, 1), noLess(2, n), api.HeatWord{One: 0, Two: 1, Kind: n})
	}
	return bad
}

// badRaces are races that are not valid, and their errors.
func badRaces() []badRace {
	many := slices.Repeat([]api.HeatWord{before(0, 1)}, api.MaxHeatWords+1)
	strays := slices.Repeat([]api.HeatWord{before(9, 9)}, api.MaxHeatWords+1)
	bad := []badRace{
		{api.HeatRace{}, api.ErrRange},
		{race(1), api.ErrRange},
		{race(0), api.ErrRange},
		{race(-1), api.ErrRange},
		{race(-3), api.ErrRange},
		{race(6), api.ErrRange},
		{race(7, before(0, 1)), api.ErrRange},
		{race(1, before(0, 0)), api.ErrRange},
		{race(6, many...), api.ErrRange},
		{race(1, strays...), api.ErrRange},
		{race(2, many...), api.ErrMany},
		{race(5, many...), api.ErrMany},
		{race(5, strays...), api.ErrMany},
		{race(5, slices.Repeat(many, 2)...), api.ErrMany},
		{race(2, before(0, 2)), api.ErrArg},
		{race(2, before(2, 0)), api.ErrArg},
		{race(4, with(4, 0)), api.ErrArg},
		{race(5, noLess(0, 5)), api.ErrArg},
		{race(5, strays[1:]...), api.ErrArg},
		{race(3, before(0, 1), before(1, 1)), api.ErrArg},
		{race(3, before(3, 1), before(1, 0), before(0, 1)), api.ErrArg},
		{race(3, before(0, 1), before(1, 0), with(0, 3)), api.ErrArg},
		{race(5, append(many[2:], noLess(5, 0))...), api.ErrArg},
	}
	for _, n := range farthest {
		bad = append(bad, badRace{race(n), api.ErrRange}, badRace{race(n, before(0, 1)), api.ErrRange})
	}
	for _, w := range badWords() {
		bad = append(bad, badRace{race(3, w), api.ErrArg}, badRace{race(3, before(0, 1), w), api.ErrArg})
	}
	return bad
}

// P7.1
func TestCheckRace(t *testing.T) {
	for i, h := range []api.HeatRace{
		raceH(), raceJ(), raceK(), tied(), chain(), round(), full(), race(2), race(3), race(4), race(5),
		race(2, before(0, 1)), race(2, before(1, 0)), race(2, with(0, 1)), race(2, noLess(1, 0)), race(5, before(4, 3), with(3, 4), noLess(0, 4)),
		race(2, slices.Repeat([]api.HeatWord{noLess(1, 0)}, api.MaxHeatWords)...),
	} {
		if e := heat.CheckRace(h); e != api.OK {
			t.Error(i, h, e)
		}
	}
	for i, x := range badRaces() {
		if e := heat.CheckRace(x.h); e != x.e {
			t.Error(i, x.h, e)
		}
	}
}

// P7.1: all functions return the error of CheckRace before all others, and nothing with it.
func TestBadRaces(t *testing.T) {
	for i, x := range badRaces() {
		if e := heat.CheckFinish(x.h, nil); e != x.e {
			t.Error(i, "CheckFinish", e)
		}
		if f, e := heat.Finish(x.h); len(f) != 0 || e != x.e {
			t.Error(i, "Finish", f, e)
		}
		if n, e := heat.Count(x.h); n != 0 || e != x.e {
			t.Error(i, "Count", n, e)
		}
		for _, circle := range [][]int{nil, list(-1), make([]int, 13)} {
			if e := heat.CheckCircle(x.h, circle); e != x.e {
				t.Error(i, "CheckCircle", e)
			}
		}
		if c, e := heat.Circle(x.h); len(c) != 0 || e != x.e {
			t.Error(i, "Circle", c, e)
		}
		if k, e := heat.Kind(x.h, before(9, 9)); k != 0 || e != x.e {
			t.Error(i, "Kind", k, e)
		}
		if r, e := heat.Places(x.h, -1); r != (api.Range{}) || e != x.e {
			t.Error(i, "Places", r, e)
		}
		if k, e := heat.Placed(x.h, -1, 0); k != 0 || e != x.e {
			t.Error(i, "Placed", k, e)
		}
		if k, e := heat.Placed(x.h, 0, 0); k != 0 || e != x.e {
			t.Error(i, "Placed", k, e)
		}
		if e := heat.CheckBase(x.h, list(-1)); e != x.e {
			t.Error(i, "CheckBase", e)
		}
		if b, e := heat.Base(x.h); len(b) != 0 || e != x.e {
			t.Error(i, "Base", b, e)
		}
	}
}

// P7.2
func TestCheckFinish(t *testing.T) {
	for i, x := range []struct {
		h      api.HeatRace
		finish []int
		e      api.Errno
	}{
		{raceH(), list(1, 3, 2), api.OK},
		{raceH(), list(1, 3, 1), api.OK},
		{raceH(), list(1, 2, 2), api.OK},
		{raceH(), list(2, 3, 1), api.OK},
		{raceH(), list(1, 2, 1), api.ErrRule},
		{raceH(), list(2, 1, 3), api.ErrHeat},
		{raceH(), list(1, 2, 3), api.ErrHeat},
		{raceH(), list(1, 1, 1), api.ErrHeat},
		{raceH(), list(0, 2, 1), api.ErrRule},
		{raceH(), list(2, 2, 2), api.ErrRule},
		{raceH(), list(0, 0, 0), api.ErrRule},
		{raceH(), list(1, 3, 3), api.ErrRule},
		{raceH(), list(1, 1, 2), api.ErrRule},
		{raceH(), list(2, 4, 1), api.ErrRule},
		{raceH(), nil, api.ErrEqual},
		{raceH(), list(), api.ErrEqual},
		{raceH(), list(1, 2), api.ErrEqual},
		{raceH(), list(1, 3, 2, 4), api.ErrEqual},
		{raceH(), list(1, 3, 2, 0), api.ErrEqual},
		{raceH(), list(1, 3, 2, 0, 0), api.ErrEqual},
		{raceH(), list(1, 3, 2, 4, 5, 6), api.ErrEqual},
		{raceH(), make([]int, 100), api.ErrEqual},
		{raceJ(), list(1, 2, 3), api.ErrHeat},
		{raceJ(), list(9, 9, 9), api.ErrRule},
		{raceK(), list(1, 2, 3), api.OK},
		{tied(), list(1, 1, 1, 1, 1), api.OK},
		{tied(), list(1, 1, 1, 1, 5), api.ErrHeat},
		{tied(), list(1, 1, 1, 1), api.ErrEqual},
		{chain(), list(5, 4, 3, 2, 1), api.OK},
		{chain(), list(1, 2, 3, 4, 5), api.ErrHeat},
		{chain(), list(6, 5, 4, 3, 2), api.ErrRule},
		{race(2), list(1, 1), api.OK},
		{race(2), list(2, 1), api.OK},
		{race(2), list(1, 2), api.OK},
		{race(2), list(2, 2), api.ErrRule},
		{race(2, noLess(0, 1)), list(1, 1), api.OK},
		{race(2, noLess(0, 1)), list(1, 2), api.OK},
		{race(2, noLess(0, 1)), list(2, 1), api.ErrHeat},
		{race(2, with(0, 1)), list(1, 1), api.OK},
		{race(2, with(0, 1)), list(1, 2), api.ErrHeat},
		{race(2, with(0, 1)), list(2, 1), api.ErrHeat},
		{race(2, before(0, 1)), list(1, 1), api.ErrHeat},
		{race(2, before(0, 1)), list(1, 2), api.OK},
		{race(2, before(0, 1)), list(2, 1), api.ErrHeat},
		{race(5), list(4, 1, 1, 1, 4), api.OK},
		{race(5), list(4, 1, 1, 2, 4), api.ErrRule},
		{race(5, before(0, 1), before(1, 0)), list(4, 1, 1, 1, 4), api.ErrHeat},
	} {
		if e := heat.CheckFinish(x.h, x.finish); e != x.e {
			t.Error(i, x.h, x.finish, e)
		}
	}
	for _, n := range farthest {
		for _, finish := range [][]int{list(n, 3, 2), list(1, n, 1), list(1, 2, n), list(n, n, n)} {
			if e := heat.CheckFinish(raceH(), finish); e != api.ErrRule {
				t.Error(finish, e)
			}
		}
	}
}

// P7.2, P7.14
func TestFinishAndCount(t *testing.T) {
	for i, x := range []struct {
		h      api.HeatRace
		count  int
		finish []int
	}{
		{raceH(), 4, list(1, 2, 2)},
		{raceJ(), 0, nil},
		{raceK(), 1, list(1, 2, 3)},
		{tied(), 1, list(1, 1, 1, 1, 1)},
		{chain(), 1, list(5, 4, 3, 2, 1)},
		{round(), 0, nil},
		{full(), 31, list(1, 1, 3, 3, 3)},
		{race(2), 3, list(1, 1)},
		{race(3), 13, list(1, 1, 1)},
		{race(4), 75, list(1, 1, 1, 1)},
		{race(5), 541, list(1, 1, 1, 1, 1)},
		{race(2, before(0, 1)), 1, list(1, 2)},
		{race(2, before(1, 0)), 1, list(2, 1)},
		{race(2, with(1, 0)), 1, list(1, 1)},
		{race(2, noLess(1, 0)), 2, list(1, 1)},
		{race(2, before(1, 0), with(0, 1)), 0, nil},
		{race(2, noLess(1, 0), noLess(0, 1)), 1, list(1, 1)},
		{race(3, before(2, 0)), 5, list(2, 2, 1)},
		{race(3, with(2, 0)), 3, list(1, 1, 1)},
		{race(3, noLess(2, 0)), 8, list(1, 1, 1)},
		{race(3, before(1, 0), before(2, 0)), 3, list(3, 1, 1)},
		{race(5, with(0, 1), with(1, 2), with(2, 3)), 3, list(1, 1, 1, 1, 1)},
		{race(5, before(4, 0)), 233, list(2, 2, 2, 2, 1)},
	} {
		want := api.OK
		if x.count == 0 {
			want = api.ErrHeat
		}
		if f, e := heat.Finish(x.h); !slices.Equal(f, x.finish) || e != want {
			t.Error(i, x.h, f, e)
		}
		if n, e := heat.Count(x.h); n != x.count || e != api.OK {
			t.Error(i, x.h, n, e)
		}
	}
}

// P7.3
func TestCheckCircle(t *testing.T) {
	both := race(3, with(0, 1), before(0, 1), with(1, 2), before(2, 0))
	for i, x := range []struct {
		h      api.HeatRace
		circle []int
		e      api.Errno
	}{
		{raceJ(), list(1, 2), api.OK},
		{raceJ(), list(2, 1), api.OK},
		{raceJ(), list(0, 1), api.ErrRule},
		{raceJ(), list(0, 2), api.ErrRule},
		{raceJ(), list(0), api.ErrRule},
		{raceJ(), list(1), api.ErrRule},
		{raceJ(), list(2), api.ErrRule},
		{raceJ(), list(1, 1), api.ErrRule},
		{raceJ(), list(2, 2), api.ErrRule},
		{raceJ(), list(1, 2, 1), api.ErrRule},
		{raceJ(), list(0, 1, 2), api.ErrRule},
		{raceJ(), list(0, 2, 1), api.ErrRule},
		{raceJ(), list(2, 1, 2, 1), api.OK},
		{raceJ(), slices.Repeat(list(1, 2), 6), api.OK},
		{raceJ(), slices.Repeat(list(2, 1), 6), api.OK},
		{raceJ(), slices.Repeat(list(1, 2), 7), api.ErrMany},
		{raceJ(), append(slices.Repeat(list(1, 2), 6), 1), api.ErrMany},
		{raceJ(), append(slices.Repeat(list(1, 2), 5), 1), api.ErrRule},
		{raceJ(), nil, api.ErrMany},
		{raceJ(), list(), api.ErrMany},
		{raceJ(), slices.Repeat(list(9), 13), api.ErrMany},
		{raceJ(), slices.Repeat(list(9), 12), api.ErrRange},
		{raceJ(), list(3), api.ErrRange},
		{raceJ(), list(-1), api.ErrRange},
		{raceJ(), list(1, 2, 3), api.ErrRange},
		{raceJ(), list(1, 2, -1), api.ErrRange},
		{raceJ(), list(0, 0, 3), api.ErrRange},
		{raceH(), list(0, 1), api.ErrRule},
		{race(3), list(0), api.ErrRange},
		{race(3), nil, api.ErrMany},
		{tied(), list(0, 0), api.ErrRule},
		{tied(), list(0, 1, 2, 3, 4), api.ErrRule},
		{round(), list(0, 1, 2, 3, 4), api.OK},
		{round(), list(4, 0, 1, 2, 3), api.OK},
		{round(), list(2, 3, 4, 0, 1), api.OK},
		{round(), list(4, 3, 2, 1, 0), api.ErrRule},
		{round(), list(0, 1, 2, 3), api.ErrRule},
		{round(), list(0, 1, 1, 1, 2, 3, 4), api.OK},
		{round(), list(0, 1, 1, 2, 3, 4), api.ErrRule},
		{round(), list(0, 1, 3, 2, 4), api.ErrRule},
		{both, list(0, 1), api.OK},
		{both, list(1, 0), api.OK},
		{both, list(1, 2, 3), api.OK},
		{both, list(0, 2, 3), api.OK},
		{both, list(3, 0, 2), api.OK},
		{both, list(3, 1, 2), api.OK},
		{both, list(3, 2, 1), api.ErrRule},
		{both, list(3, 0, 0), api.ErrRule},
		{both, list(3, 0, 0, 0, 2), api.OK},
		{both, list(0, 0), api.ErrRule},
		{both, list(2, 2), api.ErrRule},
		{both, list(0, 2, 2, 0), api.ErrRule},
		{both, list(1, 2, 2, 0), api.OK},
		{both, list(1, 1), api.ErrRule},
		{both, list(1, 3), api.ErrRule},
		{race(2, before(0, 1), before(1, 0)), list(0, 1), api.OK},
		{race(2, before(0, 1), before(1, 0)), list(1, 0), api.OK},
		{race(2, before(0, 1), before(1, 0)), list(0, 0), api.ErrRule},
		{race(2, before(0, 1), noLess(1, 0)), list(1, 0), api.OK},
		{race(2, noLess(0, 1), noLess(1, 0)), list(1, 0), api.ErrRule},
		{race(2, before(0, 1), noLess(0, 1)), list(0, 1), api.ErrRule},
		{race(2, before(0, 1), with(0, 1)), list(0, 1), api.OK},
		{race(2, before(0, 1), with(1, 0)), list(0, 1), api.OK},
		// Two circles that do not meet are none.
		{race(4, before(0, 1), before(1, 0), before(2, 3), before(3, 2)), list(0, 1, 2, 3), api.ErrRule},
		{race(4, before(0, 1), before(1, 0), before(2, 3), before(3, 2)), list(2, 3), api.OK},
		{race(3, before(0, 1), before(1, 0), before(0, 2), before(2, 0)), list(0, 1, 2, 3), api.OK},
		{race(3, before(0, 1), before(1, 0), before(0, 2), before(2, 0)), list(1, 2, 3, 0), api.OK},
		{race(3, before(0, 1), before(1, 0), before(0, 2), before(2, 0)), list(0, 2, 1, 3), api.ErrRule},
	} {
		if e := heat.CheckCircle(x.h, x.circle); e != x.e {
			t.Error(i, x.h, x.circle, e)
		}
	}
	for _, n := range farthest {
		for _, circle := range [][]int{list(n), list(1, 2, n), list(n, 1, 2)} {
			if e := heat.CheckCircle(raceJ(), circle); e != api.ErrRange {
				t.Error(circle, e)
			}
		}
	}
}

// P7.3
func TestCircle(t *testing.T) {
	clash := full()
	clash.Words[11] = before(4, 0)
	for i, x := range []struct {
		h api.HeatRace
		n int // 0 if the judges agree
	}{
		{raceH(), 0},
		{raceJ(), 2},
		{raceK(), 0},
		{tied(), 0},
		{chain(), 0},
		{round(), 5},
		{full(), 0},
		{clash, 2},
		{race(5), 0},
		{race(2, before(0, 1), before(1, 0)), 2},
		{race(2, before(0, 1), with(0, 1)), 2},
		{race(2, before(1, 0), with(0, 1)), 2},
		{race(2, noLess(1, 0), before(0, 1)), 2},
		{race(2, noLess(1, 0), with(0, 1)), 0},
		{race(2, before(0, 1), noLess(0, 1), with(0, 1)), 2},
		{race(3, noLess(0, 1), noLess(1, 2), noLess(2, 0)), 0},
		{race(3, noLess(0, 1), before(1, 2), noLess(2, 0)), 3},
		{race(4, before(0, 1), before(1, 2), before(2, 3), before(3, 0)), 4},
		{race(4, before(0, 1), before(1, 2), before(2, 3), before(3, 0), before(2, 0)), 3},
		{race(4, before(0, 1), before(1, 2), before(2, 0), before(3, 0), with(0, 3)), 2},
		{race(4, before(0, 1), with(1, 2), with(2, 3), with(3, 0)), 4},
		// A circle of two has no before.
		{race(4, noLess(0, 1), noLess(1, 0), noLess(1, 2), before(2, 0)), 3},
		{race(5, with(0, 1), with(2, 3), noLess(1, 2), noLess(3, 4), before(4, 0)), 5},
		// Links that lead away from a circle.
		{race(5, before(0, 1), noLess(1, 2), noLess(2, 3), noLess(3, 0), noLess(3, 4)), 4},
		{race(5, before(4, 3), noLess(3, 2), noLess(2, 1), noLess(1, 0), with(1, 4)), 4},
		{race(5, before(0, 1), before(1, 2), before(2, 3), before(3, 4), before(4, 0), noLess(0, 2), noLess(2, 4)), 3},
	} {
		c, e := heat.Circle(x.h)
		if x.n == 0 {
			if len(c) != 0 || e != api.ErrHave {
				t.Error(i, x.h, c, e)
			}
			continue
		}
		if len(c) != x.n || e != api.OK || heat.CheckCircle(x.h, c) != api.OK {
			t.Error(i, x.h, c, e)
		}
	}
}

// P7.4
func TestKind(t *testing.T) {
	for i, x := range []struct {
		h    api.HeatRace
		w    api.HeatWord
		kind int
		e    api.Errno
	}{
		{raceH(), before(0, 2), api.HeatMay, api.OK},
		{raceH(), before(2, 1), api.HeatMay, api.OK},
		{raceH(), with(1, 2), api.HeatMay, api.OK},
		{raceH(), before(1, 0), api.HeatNever, api.OK},
		{raceH(), before(0, 1), api.HeatAlways, api.OK},
		{raceH(), noLess(0, 1), api.HeatAlways, api.OK},
		{raceH(), noLess(1, 0), api.HeatNever, api.OK},
		{raceH(), noLess(2, 1), api.HeatAlways, api.OK},
		{raceH(), noLess(1, 2), api.HeatMay, api.OK},
		{raceH(), before(1, 2), api.HeatNever, api.OK},
		{raceH(), with(0, 1), api.HeatNever, api.OK},
		{raceJ(), before(0, 1), 0, api.ErrHeat},
		{raceJ(), noLess(1, 0), 0, api.ErrHeat},
		{raceK(), before(0, 2), api.HeatAlways, api.OK},
		{raceK(), noLess(2, 0), api.HeatNever, api.OK},
		{tied(), with(4, 0), api.HeatAlways, api.OK},
		{tied(), noLess(4, 0), api.HeatAlways, api.OK},
		{tied(), before(4, 0), api.HeatNever, api.OK},
		{chain(), before(4, 0), api.HeatAlways, api.OK},
		{chain(), with(4, 0), api.HeatNever, api.OK},
		{full(), before(0, 2), api.HeatAlways, api.OK},
		{full(), before(1, 3), api.HeatMay, api.OK},
		{race(2), with(0, 1), api.HeatMay, api.OK},
		{race(2), before(1, 0), api.HeatMay, api.OK},
		{race(2), noLess(1, 0), api.HeatMay, api.OK},
		{race(2, before(0, 1)), before(2, 0), 0, api.ErrArg},
		{race(2, before(0, 1), before(1, 0)), before(1, 1), 0, api.ErrArg},
	} {
		if k, e := heat.Kind(x.h, x.w); k != x.kind || e != x.e {
			t.Error(i, x.h, x.w, k, e)
		}
	}
	for _, w := range badWords() {
		for _, h := range []api.HeatRace{raceH(), raceJ(), race(3)} {
			if k, e := heat.Kind(h, w); k != 0 || e != api.ErrArg {
				t.Error(h, w, k, e)
			}
		}
	}
}

// P7.5
func TestPlaces(t *testing.T) {
	for i, x := range []struct {
		h      api.HeatRace
		runner int
		lo, hi int64
		placed []int // the kind for each place
	}{
		{raceH(), 0, 1, 2, list(1, 2, 2)},
		{raceH(), 1, 2, 3, list(0, 1, 2)},
		{raceH(), 2, 1, 2, list(1, 2, 2)},
		{raceK(), 0, 1, 1, list(2, 2, 2)},
		{raceK(), 1, 2, 2, list(0, 2, 2)},
		{raceK(), 2, 3, 3, list(0, 0, 2)},
		{tied(), 4, 1, 1, list(2, 2, 2, 2, 2)},
		{chain(), 0, 5, 5, list(0, 0, 0, 0, 2)},
		{chain(), 4, 1, 1, list(2, 2, 2, 2, 2)},
		{full(), 0, 1, 3, list(1, 1, 2, 2, 2)},
		{full(), 1, 1, 5, list(1, 1, 1, 1, 2)},
		{full(), 4, 2, 4, list(0, 1, 1, 2, 2)},
		{race(2), 0, 1, 2, list(1, 2)},
		{race(2), 1, 1, 2, list(1, 2)},
		{race(5), 4, 1, 5, list(1, 1, 1, 1, 2)},
		{race(3, with(0, 1)), 0, 1, 2, list(1, 2, 2)},
		{race(3, with(0, 1)), 2, 1, 3, list(1, 1, 2)},
		// Just the first place and the last one.
		{race(3, with(0, 1), before(1, 2)), 2, 3, 3, list(0, 0, 2)},
		{race(4, with(0, 1), with(1, 2)), 3, 1, 4, list(1, 1, 1, 2)},
		{race(4, with(0, 1), with(1, 2)), 0, 1, 2, list(1, 2, 2, 2)},
	} {
		if r, e := heat.Places(x.h, x.runner); r != (api.Range{Lo: x.lo, Hi: x.hi}) || e != api.OK {
			t.Error(i, x.h, x.runner, r, e)
		}
		for n, kind := range x.placed {
			if k, e := heat.Placed(x.h, x.runner, n+1); k != kind || e != api.OK {
				t.Error(i, x.h, x.runner, n+1, k, e)
			}
		}
	}
}

// P7.5
func TestPlacesErrors(t *testing.T) {
	for i, x := range []struct {
		h             api.HeatRace
		runner, place int
		e, f          api.Errno // of Places, of Placed
	}{
		{raceJ(), 0, 1, api.ErrHeat, api.ErrHeat},
		{raceJ(), 2, 3, api.ErrHeat, api.ErrHeat},
		{raceJ(), 0, 0, api.ErrHeat, api.ErrArg},
		{raceJ(), 0, 4, api.ErrHeat, api.ErrArg},
		{raceJ(), 3, 0, api.ErrRange, api.ErrRange},
		{raceJ(), 3, 1, api.ErrRange, api.ErrRange},
		{raceJ(), -1, 4, api.ErrRange, api.ErrRange},
		{raceH(), 3, 1, api.ErrRange, api.ErrRange},
		{raceH(), -1, 1, api.ErrRange, api.ErrRange},
		{raceH(), 4, 5, api.ErrRange, api.ErrRange},
		{race(2), 2, 1, api.ErrRange, api.ErrRange},
		{race(5), 5, 1, api.ErrRange, api.ErrRange},
	} {
		if r, e := heat.Places(x.h, x.runner); r != (api.Range{}) || e != x.e {
			t.Error(i, x.h, x.runner, r, e)
		}
		if k, e := heat.Placed(x.h, x.runner, x.place); k != 0 || e != x.f {
			t.Error(i, x.h, x.runner, x.place, k, e)
		}
	}
	for _, place := range append(list(0, -1, 4, 5), farthest...) {
		if k, e := heat.Placed(raceH(), 1, place); k != 0 || e != api.ErrArg {
			t.Error(place, k, e)
		}
	}
	for _, runner := range farthest {
		if r, e := heat.Places(raceH(), runner); r != (api.Range{}) || e != api.ErrRange {
			t.Error(runner, r, e)
		}
		if k, e := heat.Placed(raceH(), runner, runner); k != 0 || e != api.ErrRange {
			t.Error(runner, k, e)
		}
	}
}

// P7.6
func TestCheckBase(t *testing.T) {
	twice := race(3, before(0, 1), before(0, 1), noLess(0, 1))
	for i, x := range []struct {
		h    api.HeatRace
		base []int
		e    api.Errno
	}{
		{raceK(), list(0, 1), api.OK},
		{raceK(), list(0, 1, 2), api.OK},
		{raceK(), list(0, 2), api.ErrNone},
		{raceK(), list(1, 2), api.ErrNone},
		{raceK(), list(0), api.ErrNone},
		{raceK(), list(1), api.ErrNone},
		{raceK(), list(2), api.ErrNone},
		{raceK(), nil, api.ErrNone},
		{raceK(), list(), api.ErrNone},
		{raceK(), list(1, 0), api.ErrRange},
		{raceK(), list(0, 0), api.ErrRange},
		{raceK(), list(1, 1), api.ErrRange},
		{raceK(), list(2, 1), api.ErrRange},
		{raceK(), list(2, 2), api.ErrRange},
		{full(), list(0, 11, 11), api.ErrRange},
		{full(), list(0, 11, 5), api.ErrRange},
		{raceK(), list(0, 1, 1), api.ErrRange},
		{raceK(), list(0, 1, 0), api.ErrRange},
		{raceK(), list(3), api.ErrRange},
		{raceK(), list(0, 1, 3), api.ErrRange},
		{raceK(), list(-1), api.ErrRange},
		{raceK(), list(-1, 0, 1), api.ErrRange},
		{raceK(), list(0, 1, 2, 3), api.ErrRange},
		{raceK(), make([]int, 100), api.ErrRange},
		{raceH(), list(0, 1), api.OK},
		{raceH(), list(0), api.ErrNone},
		{raceH(), list(1), api.ErrNone},
		{twice, list(0), api.OK},
		{twice, list(1), api.OK},
		{twice, list(0, 1), api.OK},
		{twice, list(1, 2), api.OK},
		{twice, list(2), api.ErrNone},
		{race(3), nil, api.OK},
		{race(3), list(0), api.ErrRange},
		{race(2, noLess(0, 1), noLess(1, 0), with(0, 1)), list(0, 1), api.OK},
		{race(2, noLess(0, 1), noLess(1, 0), with(0, 1)), list(2), api.OK},
		{race(2, noLess(0, 1), noLess(1, 0), with(0, 1)), list(0), api.ErrNone},
		{tied(), list(0, 1, 2, 3, 4), api.OK},
		{tied(), list(0, 1, 2, 3), api.ErrNone},
		{full(), list(0, 11), api.OK},
		{full(), list(1, 11), api.ErrNone},
		{full(), list(0, 1, 2, 3, 4, 5, 6, 7, 8, 9, 10, 11), api.OK},
		{full(), list(0, 1, 2, 3, 4, 5, 6, 7, 8, 9, 10, 12), api.ErrRange},
		{raceJ(), list(0, 1, 2), api.ErrHeat},
		{raceJ(), nil, api.ErrHeat},
		{raceJ(), list(1, 0), api.ErrRange},
		{raceJ(), list(3), api.ErrRange},
	} {
		if e := heat.CheckBase(x.h, x.base); e != x.e {
			t.Error(i, x.h, x.base, e)
		}
	}
	for _, n := range farthest {
		for _, base := range [][]int{list(n), list(0, 1, n), list(n, 0, 1)} {
			if e := heat.CheckBase(raceK(), base); e != api.ErrRange {
				t.Error(base, e)
			}
		}
	}
}

// P7.6
func TestBase(t *testing.T) {
	for i, x := range []struct {
		h    api.HeatRace
		base []int
		e    api.Errno
	}{
		{raceK(), list(0, 1), api.OK},
		{raceH(), list(0, 1), api.OK},
		{raceJ(), nil, api.ErrHeat},
		{round(), nil, api.ErrHeat},
		{tied(), list(0, 1, 2, 3, 4), api.OK},
		{chain(), list(0, 1, 2, 3), api.OK},
		{full(), list(0, 11), api.OK},
		{race(2), nil, api.OK},
		{race(5), nil, api.OK},
		{race(2, noLess(0, 1)), list(0), api.OK},
		{race(2, with(0, 1), with(1, 0)), list(0), api.OK},
		{race(2, noLess(0, 1), noLess(1, 0), with(0, 1)), list(2), api.OK},
		{race(2, noLess(0, 1), noLess(1, 0)), list(0, 1), api.OK},
		{race(2, noLess(0, 1), before(0, 1)), list(1), api.OK},
		{race(3, before(0, 2), before(1, 2), before(0, 1)), list(1, 2), api.OK},
		{race(3, with(0, 2), with(1, 2), with(0, 1)), list(0, 1), api.OK},
		{race(4, with(0, 1), with(0, 1), with(2, 3), with(2, 3), with(1, 2)), list(0, 2, 4), api.OK},
		// Of those of two words, 0 2 and 1 2 would do.
		{race(3, noLess(0, 1), before(0, 1), with(1, 2), before(0, 2)), list(1, 2), api.OK},
		{race(3, before(1, 2), noLess(0, 1), with(1, 0), before(0, 2)), list(0, 2), api.OK},
	} {
		b, e := heat.Base(x.h)
		if !slices.Equal(b, x.base) || e != x.e {
			t.Error(i, x.h, b, e)
		}
		if e := heat.CheckBase(x.h, b); e != x.e {
			t.Error(i, x.h, b, e)
		}
	}
}

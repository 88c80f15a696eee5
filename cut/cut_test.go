package cut_test

import (
	"math"
	"slices"
	"testing"

	"quinella/api"
	"quinella/cut"
)

func counter(from, to int, lo, hi int64) api.CutCounter {
	return api.CutCounter{From: from, To: to, Count: api.Range{Lo: lo, Hi: hi}}
}

func hall(windows int, most int64, counters ...api.CutCounter) api.CutHall {
	return api.CutHall{Windows: windows, Most: most, Counters: counters}
}

// hallH, hallJ and hallK are those of the chapter's examples.
func hallH() api.CutHall {
	return hall(3, 100, counter(0, 1, 10, 12), counter(1, 2, 20, 22), counter(0, 2, 25, 26))
}

func hallJ() api.CutHall {
	return hall(3, 100, counter(0, 1, 10, 12), counter(1, 2, 20, 22), counter(0, 2, 40, 41))
}

func hallK() api.CutHall {
	return hall(2, 9, counter(0, 0, 5, 5), counter(0, 0, 7, 7), counter(0, 0, 7, 7))
}

// largest is a hall in which everything is at its limit.
func largest() api.CutHall {
	h := hall(api.MaxCutWindows, api.MaxCutTickets)
	for range api.MaxCutCounters {
		h.Counters = append(h.Counters, counter(0, 9, api.MaxCutCount, api.MaxCutCount))
	}
	return h
}

// c, cb, w and wb are steps over a counter, back over it, over a window, and back over it.
func c(index int) api.CutStep { return api.CutStep{Index: index} }

func cb(index int) api.CutStep { return api.CutStep{Index: index, Back: true} }

func w(index int) api.CutStep { return api.CutStep{Window: true, Index: index} }

func wb(index int) api.CutStep { return api.CutStep{Window: true, Index: index, Back: true} }

func steps(list ...api.CutStep) []api.CutStep { return list }

func ways(list ...[]api.CutStep) [][]api.CutStep { return list }

func list(numbers ...int64) []int64 { return numbers }

func span(lo, hi int64) api.Range { return api.Range{Lo: lo, Hi: hi} }

// farthest are numbers at the ends of their type.
var farthest = []int64{math.MinInt64, math.MinInt64 + 1, math.MaxInt64 - 1, math.MaxInt64}

// strays are numbers that are not the index of one of so many.
func strays(many int) []int {
	return []int{-1, many, many + 1, math.MinInt, math.MaxInt}
}

type badHall struct {
	h api.CutHall
	e api.Errno
}

// badHalls are halls that are not valid, and their errors.
func badHalls() []badHall {
	one := counter(0, 0, 0, 0)
	turned, astray := counter(1, 0, 0, 0), counter(0, 2, 0, 0)
	bad := []badHall{
		{hall(0, 1), api.ErrMany},
		{hall(11, 1), api.ErrMany},
		{hall(2, 1, slices.Repeat([]api.CutCounter{one}, 11)...), api.ErrMany},
		{hall(2, -1, slices.Repeat([]api.CutCounter{turned}, 11)...), api.ErrMany},
		{hall(11, -1, turned), api.ErrMany},
		{hall(0, -1, counter(0, -1, 1, 0)), api.ErrMany},
		{hall(2, 1, turned), api.ErrArg},
		{hall(2, 1, astray), api.ErrArg},
		{hall(2, 1, counter(2, 2, 0, 0)), api.ErrArg},
		{hall(2, 1, counter(-1, 1, 0, 0)), api.ErrArg},
		{hall(2, 1, counter(-1, -1, 0, 0)), api.ErrArg},
		{hall(2, 1, one, one, astray), api.ErrArg},
		{hall(2, -1, turned), api.ErrArg},
		{hall(2, -1, counter(0, 1, 2, 1), astray), api.ErrArg},
		{hall(2, -1), api.ErrRange},
		{hall(2, 1000001), api.ErrRange},
		{hall(2, 1, counter(0, 1, 1, 0)), api.ErrRange},
		{hall(2, 1, counter(0, 1, -1, 0)), api.ErrRange},
		{hall(2, 1, counter(0, 1, -2, -1)), api.ErrRange},
		{hall(2, 1, counter(0, 1, 0, 10000001)), api.ErrRange},
		{hall(2, 1, counter(0, 1, 10000001, 10000001)), api.ErrRange},
		{hall(2, 1, one, one, counter(0, 1, 1, 0)), api.ErrRange},
	}
	for _, n := range farthest {
		bad = append(bad,
			badHall{hall(int(n), 1), api.ErrMany},
			badHall{hall(2, 1, counter(int(n), int(n), 0, 0)), api.ErrArg},
			badHall{hall(2, 1, counter(int(n), 1, 0, 0)), api.ErrArg},
			badHall{hall(2, 1, counter(0, int(n), 0, 0)), api.ErrArg},
			badHall{hall(2, n), api.ErrRange},
			badHall{hall(2, 1, counter(0, 1, n, n)), api.ErrRange},
			badHall{hall(2, 1, counter(0, 1, n, 5)), api.ErrRange},
			badHall{hall(2, 1, counter(0, 1, 5, n)), api.ErrRange},
		)
	}
	return bad
}

// P5.1
func TestCheckHall(t *testing.T) {
	for i, h := range []api.CutHall{
		hallH(), hallJ(), hallK(), largest(),
		hall(1, 0), hall(10, 1000000), hall(10, 0, counter(9, 9, 0, 0)), hall(10, 1, counter(0, 9, 10000000, 10000000)),
		hall(1, 1000000, counter(0, 0, 0, 10000000)), hall(2, 1, counter(1, 1, 7, 7), counter(1, 1, 7, 7)),
		hall(1, 1, slices.Repeat([]api.CutCounter{counter(0, 0, 0, 1)}, 10)...),
	} {
		if e := cut.CheckHall(h); e != api.OK {
			t.Error(i, h, e)
		}
	}
	for i, x := range badHalls() {
		if e := cut.CheckHall(x.h); e != x.e {
			t.Error(i, x.h, e)
		}
	}
}

// P5.1: all functions return the error of CheckHall before all others.
func TestBadHalls(t *testing.T) {
	long := slices.Repeat(steps(w(99)), 201)
	for i, x := range badHalls() {
		if e := cut.CheckTruth(x.h, list(-1)); e != x.e {
			t.Error(i, "CheckTruth", e)
		}
		if l, e := cut.Truth(x.h); len(l) != 0 || e != x.e {
			t.Error(i, "Truth", l, e)
		}
		if r, e := cut.Span(x.h, 5, -1); r != span(0, 0) || e != x.e {
			t.Error(i, "Span", r, e)
		}
		if n, e := cut.CheckWay(x.h, 99, -1, long); n != 0 || e != x.e {
			t.Error(i, "CheckWay", n, e)
		}
		if l, e := cut.Way(x.h, 99, -1); len(l) != 0 || e != x.e {
			t.Error(i, "Way", l, e)
		}
		if l, e := cut.Ring(x.h); len(l) != 0 || e != x.e {
			t.Error(i, "Ring", l, e)
		}
		if n, e := cut.CheckRings(x.h, ways(long)); n != 0 || e != x.e {
			t.Error(i, "CheckRings", n, e)
		}
		if l, e := cut.Wrong(x.h); len(l) != 0 || e != x.e {
			t.Error(i, "Wrong", l, e)
		}
		if n, e := cut.Lists(x.h); n != 0 || e != x.e {
			t.Error(i, "Lists", n, e)
		}
		if n, e := cut.Kind(x.h, -1); n != 0 || e != x.e {
			t.Error(i, "Kind", n, e)
		}
	}
}

// P5.2
func TestCheckTruth(t *testing.T) {
	for i, x := range []struct {
		h     api.CutHall
		truth []int64
		e     api.Errno
	}{
		{hallH(), list(5, 6, 15), api.OK},
		{hallH(), list(5, 8, 15), api.ErrSum},
		{hallH(), list(3, 9, 13), api.OK},
		{hallH(), list(6, 4, 16), api.OK},
		{hallH(), list(6, 3, 17), api.ErrSum}, // 9 in the windows 0 to 1
		{hallH(), list(6, 4, 15), api.ErrSum}, // 19 in the windows 1 to 2
		{hallH(), list(3, 9, 14), api.ErrSum}, // 23 there
		{hallH(), list(2, 9, 13), api.ErrSum}, // 24 in all windows
		{hallH(), list(6, 5, 16), api.ErrSum}, // 27 in all windows
		{hallH(), list(), api.ErrEqual},
		{hallH(), list(5, 6), api.ErrEqual},
		{hallH(), list(5, 6, 15, 0), api.ErrEqual},
		{hallH(), list(-1, 101), api.ErrEqual},
		{hallH(), list(-5, 16, 15), api.ErrRange},
		{hallH(), list(-1, 11, 15), api.ErrRange},
		{hallH(), list(0, 101, 0), api.ErrRange},
		{hallH(), list(0, 0, 101), api.ErrRange},
		{hall(3, 100), list(0, 100, 50), api.OK},
		{hall(1, 0), list(0), api.OK},
		{hall(1, 0), list(1), api.ErrRange},
		{hallJ(), list(12, 0, 22), api.ErrSum},
		{hallK(), list(7, 9), api.ErrSum},
		{largest(), slices.Repeat(list(1000000), 10), api.OK},
		{largest(), append(slices.Repeat(list(1000000), 9), 999999), api.ErrSum},
		{largest(), append(slices.Repeat(list(1000000), 9), 1000001), api.ErrRange},
		{hall(4, 9, counter(1, 2, 5, 5)), list(9, 2, 3, 9), api.OK},
		{hall(4, 9, counter(1, 2, 5, 5)), list(5, 2, 2, 5), api.ErrSum},
		{hall(4, 9, counter(2, 2, 5, 6), counter(0, 3, 0, 20)), list(9, 0, 5, 6), api.OK},
		{hall(4, 9, counter(2, 2, 5, 6), counter(0, 3, 0, 20)), list(9, 0, 5, 7), api.ErrSum},
		{hall(4, 9, counter(0, 3, 0, 20), counter(2, 2, 5, 6)), list(5, 5, 4, 5), api.ErrSum},
	} {
		if e := cut.CheckTruth(x.h, x.truth); e != x.e {
			t.Error(i, x.h, x.truth, e)
		}
	}
	for _, n := range farthest {
		if e := cut.CheckTruth(hallH(), list(5, n, n)); e != api.ErrRange {
			t.Error(n, e)
		}
	}
}

// agreeing are halls whose counters agree; some of them only just.
func agreeing() []api.CutHall {
	return []api.CutHall{
		hallH(), largest(), hall(1, 0), hall(10, 0), hall(10, 7), hall(10, 1000000),
		hall(3, 100, counter(0, 2, 290, 500)),
		hall(3, 100, counter(0, 2, 300, 300)),
		hall(3, 100, counter(0, 2, 0, 0)),
		hall(10, 3, counter(2, 7, 11, 12), counter(0, 4, 15, 15)),
		hall(10, 5, counter(0, 9, 50, 60)),
		hall(2, 9, counter(0, 0, 5, 5), counter(0, 1, 14, 99)),
		hall(1, 9, counter(0, 0, 3, 5), counter(0, 0, 5, 7)),
		hall(4, 9, counter(0, 0, 4, 4), counter(1, 1, 4, 4), counter(2, 2, 4, 4), counter(3, 3, 4, 4), counter(0, 3, 16, 16), counter(1, 2, 8, 8)),
	}
}

// disagreeing are halls whose counters do not agree; some of them only just.
func disagreeing() []api.CutHall {
	return []api.CutHall{
		hallJ(), hallK(),
		hall(1, 0, counter(0, 0, 1, 1)),
		hall(1, 9, counter(0, 0, 10, 10)),
		hall(2, 9, counter(0, 1, 19, 30)),
		hall(10, 5, counter(0, 9, 51, 60)),
		hall(10, 1000000, counter(0, 8, 9000001, 10000000)),
		hall(3, 100, counter(0, 2, 301, 301)),
		hall(1, 9, counter(0, 0, 3, 4), counter(0, 0, 5, 7)),
		hall(2, 9, counter(0, 0, 5, 5), counter(0, 1, 0, 4)),
		hall(2, 9, counter(0, 0, 5, 5), counter(0, 1, 15, 99)),
		hall(4, 9, counter(0, 0, 4, 4), counter(1, 1, 4, 4), counter(2, 2, 4, 4), counter(3, 3, 4, 4), counter(0, 3, 17, 17)),
		hall(4, 9, counter(0, 0, 4, 4), counter(1, 1, 4, 4), counter(2, 2, 4, 4), counter(3, 3, 4, 4), counter(0, 3, 15, 15)),
		hall(10, 9, counter(0, 1, 7, 7), counter(2, 3, 7, 7), counter(4, 5, 7, 7), counter(6, 7, 7, 7), counter(8, 9, 7, 7),
			counter(1, 2, 8, 8), counter(3, 4, 8, 8), counter(5, 6, 8, 8), counter(7, 8, 8, 8), counter(0, 9, 0, 31)),
	}
}

// P5.2, P5.5, P5.8
func TestTruthOrRing(t *testing.T) {
	for i, h := range agreeing() {
		truth, e := cut.Truth(h)
		if e != api.OK || cut.CheckTruth(h, truth) != api.OK {
			t.Error(i, h, truth, e)
		}
		if ring, e := cut.Ring(h); len(ring) != 0 || e != api.ErrHave {
			t.Error(i, h, ring, e)
		}
	}
	for i, h := range disagreeing() {
		truth, e := cut.Truth(h)
		if len(truth) != 0 || e != api.ErrNone {
			t.Error(i, h, truth, e)
		}
		ring, e := cut.Ring(h)
		if n, f := cut.CheckRings(h, ways(ring)); e != api.OK || n != 1 || f != api.OK {
			t.Error(i, h, ring, e, n, f)
		}
	}
}

// P5.3
func TestSpan(t *testing.T) {
	half := hall(10, 1000000, counter(0, 9, 0, 5000000), counter(0, 4, 5000000, 10000000))
	for i, x := range []struct {
		h        api.CutHall
		from, to int
		want     api.Range
		e        api.Errno
	}{
		{hallH(), 1, 1, span(4, 9), api.OK},
		{hallH(), 0, 0, span(3, 6), api.OK},
		{hallH(), 2, 2, span(13, 16), api.OK},
		{hallH(), 0, 2, span(25, 26), api.OK},
		{hallH(), 0, 1, span(10, 12), api.OK},
		{hallH(), 1, 2, span(20, 22), api.OK},
		{hallJ(), 0, 0, span(0, 0), api.ErrNone},
		{hall(3, 100), 0, 1, span(0, 200), api.OK},
		{hall(3, 100), 1, 1, span(0, 100), api.OK},
		{hall(1, 0), 0, 0, span(0, 0), api.OK},
		{hall(3, 100, counter(0, 2, 290, 500)), 1, 1, span(90, 100), api.OK},
		{hall(3, 100, counter(0, 2, 0, 7)), 1, 2, span(0, 7), api.OK},
		{hall(2, 9, counter(0, 0, 5, 5), counter(0, 1, 5, 30)), 1, 1, span(0, 9), api.OK},
		{hall(2, 9, counter(0, 0, 3, 5), counter(0, 0, 5, 7)), 0, 1, span(5, 14), api.OK},
		{hall(10, 1000000), 0, 9, span(0, 10000000), api.OK},
		{hall(10, 1000000), 3, 8, span(0, 6000000), api.OK},
		{largest(), 0, 9, span(10000000, 10000000), api.OK},
		{largest(), 4, 4, span(1000000, 1000000), api.OK},
		{half, 5, 9, span(0, 0), api.OK},
		{half, 4, 5, span(1000000, 1000000), api.OK},
		{hallK(), 1, 1, span(0, 0), api.ErrNone},
	} {
		if r, e := cut.Span(x.h, x.from, x.to); r != x.want || e != x.e {
			t.Error(i, x.h, x.from, x.to, r, e)
		}
	}
	for _, h := range []api.CutHall{hallH(), hallJ()} { // the error about windows comes first
		bad := [][2]int{{1, 0}, {2, 0}, {2, 1}}
		for _, n := range strays(3) {
			bad = append(bad, [2]int{n, n}, [2]int{0, n}, [2]int{n, 2})
		}
		for _, x := range bad {
			if r, e := cut.Span(h, x[0], x[1]); r != span(0, 0) || e != api.ErrArg {
				t.Error(h, x, r, e)
			}
		}
	}
}

// P5.4
func TestCheckWay(t *testing.T) {
	rounds := slices.Repeat(steps(w(0), wb(0)), 100)
	long := slices.Repeat(steps(w(9)), 201)
	great := hall(10, 1000000, counter(0, 9, 10000000, 10000000), counter(0, 9, 0, 10000000))
	for i, x := range []struct {
		h        api.CutHall
		from, to int
		way      []api.CutStep
		sum      int64
		e        api.Errno
	}{
		{hallH(), 1, 2, steps(c(1), cb(2), c(0)), 9, api.OK},
		{hallH(), 1, 2, steps(w(1)), 100, api.OK},
		{hallH(), 2, 1, steps(wb(1)), 0, api.OK},
		{hallH(), 1, 2, steps(c(1)), 0, api.ErrRule},
		{hallH(), 2, 1, steps(cb(0), c(2), cb(1)), -4, api.OK},
		{hallH(), 0, 3, steps(c(2)), 26, api.OK},
		{hallH(), 3, 0, steps(cb(2)), -25, api.OK},
		{hallH(), 0, 2, steps(c(0)), 12, api.OK},
		{hallH(), 2, 0, steps(cb(0)), -10, api.OK},
		{hallH(), 0, 0, steps(c(0), cb(0)), 2, api.OK},
		{hallH(), 0, 0, steps(c(0), cb(0), c(0), cb(0)), 4, api.OK},
		{hallH(), 2, 2, nil, 0, api.OK},
		{hallH(), 0, 0, nil, 0, api.OK},
		{hallH(), 3, 3, nil, 0, api.OK},
		{hallH(), 1, 2, nil, 0, api.ErrRule},
		{hallH(), 1, 3, steps(c(1), cb(2), c(0)), 0, api.ErrRule},
		{hallH(), 0, 2, steps(c(1), cb(2), c(0)), 0, api.ErrRule},
		{hallH(), 1, 2, steps(c(1), c(0)), 0, api.ErrRule},
		{hallH(), 2, 1, steps(w(1)), 0, api.ErrRule},
		{hallH(), 1, 1, steps(w(0)), 0, api.ErrRule},
		{hallH(), 0, 0, steps(w(0)), 0, api.ErrRule},
		{hallH(), 0, 0, rounds, 10000, api.OK},
		{hallH(), 0, 0, long, 0, api.ErrMany},
		{hallH(), 1, 2, long, 0, api.ErrMany},
		{hallH(), 0, 1, append(slices.Clone(rounds), w(0)), 0, api.ErrMany},
		{hallH(), 4, 0, long, 0, api.ErrArg},
		{hallJ(), 0, 0, steps(c(0), wb(1), c(1), cb(2)), -6, api.OK}, // though there is a ring
		{hall(2, 5), 0, 2, steps(w(0), w(1)), 10, api.OK},
		{hall(2, 5), 0, 2, steps(c(0)), 0, api.ErrRange},
		{great, 10, 10, slices.Repeat(steps(cb(0), c(1)), 100), 0, api.OK},
		{great, 0, 0, slices.Repeat(steps(c(0), cb(1)), 100), 1000000000, api.OK},
		{great, 10, 10, slices.Repeat(steps(cb(0), wb(9), w(9), c(0)), 50), 50000000, api.ErrRule},
	} {
		want := x.sum
		if x.e != api.OK {
			want = 0
		}
		if n, e := cut.CheckWay(x.h, x.from, x.to, x.way); n != want || e != x.e {
			t.Error(i, x.h, x.from, x.to, x.way, n, e)
		}
	}
	for _, n := range strays(3) {
		for _, bad := range []api.CutStep{c(n), cb(n), w(n), wb(n)} {
			if sum, e := cut.CheckWay(hallH(), 1, 2, steps(w(1), w(0), bad)); sum != 0 || e != api.ErrRange {
				t.Error(bad, sum, e)
			}
		}
	}
	for _, n := range strays(4) {
		for _, x := range [][2]int{{n, 0}, {0, n}, {n, n}} {
			if sum, e := cut.CheckWay(hallH(), x[0], x[1], nil); sum != 0 || e != api.ErrArg {
				t.Error(x, sum, e)
			}
		}
	}
}

// P5.4: steps over windows and over counters have indexes of their own.
func TestStepsOfCountersAndOfWindows(t *testing.T) {
	few := hall(3, 8, counter(0, 2, 5, 9))
	many := hall(1, 8, counter(0, 0, 1, 2), counter(0, 0, 3, 4), counter(0, 0, 5, 6))
	for i, x := range []struct {
		h    api.CutHall
		from int
		step api.CutStep
		sum  int64
		e    api.Errno
	}{
		{few, 2, w(2), 8, api.OK}, {few, 0, c(0), 9, api.OK}, {few, 2, c(2), 0, api.ErrRange}, {few, 1, c(1), 0, api.ErrRange},
		{many, 0, c(2), 6, api.OK}, {many, 0, w(0), 8, api.OK}, {many, 0, w(2), 0, api.ErrRange}, {many, 0, w(1), 0, api.ErrRange},
	} {
		if n, e := cut.CheckWay(x.h, x.from, x.h.Windows, steps(x.step)); n != x.sum || e != x.e {
			t.Error(i, x.step, n, e)
		}
	}
}

// P5.4
func TestWay(t *testing.T) {
	for i, x := range []struct {
		h        api.CutHall
		from, to int
		sum      int64
	}{
		{hallH(), 1, 2, 9},
		{hallH(), 2, 1, -4},
		{hallH(), 0, 3, 26},
		{hallH(), 3, 0, -25},
		{hallH(), 3, 3, 0},
		{hall(3, 100), 0, 3, 300},
		{hall(3, 100), 3, 0, 0},
		{hall(3, 100), 1, 1, 0},
		{hall(10, 1000000), 0, 10, 10000000},
		{hall(10, 1000000), 10, 0, 0},
		{largest(), 10, 0, -10000000},
		{largest(), 10, 9, -1000000},
		{hall(1, 0), 0, 1, 0},
		{hall(4, 9, counter(0, 0, 4, 4), counter(1, 1, 4, 4), counter(2, 2, 4, 4), counter(3, 3, 4, 4)), 0, 4, 16},
		{hall(4, 9, counter(0, 0, 4, 4), counter(1, 1, 4, 4), counter(2, 2, 4, 4), counter(3, 3, 4, 4)), 4, 0, -16},
	} {
		way, e := cut.Way(x.h, x.from, x.to)
		if n, f := cut.CheckWay(x.h, x.from, x.to, way); e != api.OK || n != x.sum || f != api.OK {
			t.Error(i, x.h, x.from, x.to, way, e, n, f)
		}
	}
	for _, h := range disagreeing() {
		for from := range h.Windows + 1 {
			for to := range h.Windows + 1 {
				if way, e := cut.Way(h, from, to); len(way) != 0 || e != api.ErrNone {
					t.Error(h, from, to, way, e)
				}
			}
		}
	}
	for _, h := range []api.CutHall{hallH(), hallJ()} { // the error about places comes first
		for _, n := range strays(4) {
			for _, x := range [][2]int{{n, 0}, {0, n}, {n, n}} {
				if way, e := cut.Way(h, x[0], x[1]); len(way) != 0 || e != api.ErrArg {
					t.Error(h, x, way, e)
				}
			}
		}
	}
}

// P5.6
func TestCheckRings(t *testing.T) {
	two := hall(2, 50, counter(0, 0, 1, 2), counter(0, 0, 3, 4), counter(1, 1, 10, 10), counter(1, 1, 20, 20), counter(0, 1, 13, 24))
	ring := steps(c(0), cb(1))
	over := steps(wb(0), w(0), cb(0), c(0)) // 9 for the window, though 10 were counted in it
	long := slices.Repeat(steps(w(99)), 201)
	full := slices.Repeat(ring, 100)
	for i, x := range []struct {
		h     api.CutHall
		rings [][]api.CutStep
		n     int
		e     api.Errno
	}{
		{hallJ(), ways(steps(c(0), wb(1), c(1), cb(2))), 1, api.OK},
		{hallJ(), ways(steps(cb(2), c(0), wb(1), c(1))), 1, api.OK},
		{hallJ(), ways(steps(wb(1), c(1), cb(2), c(0))), 1, api.OK},
		{hallK(), ways(ring), 1, api.OK},
		{hallK(), ways(steps(cb(1), c(0))), 1, api.OK},
		{hallK(), ways(steps(c(0), cb(2))), 1, api.OK},
		{hallK(), ways(ring, ring), 0, api.ErrSum},
		{hallK(), ways(steps(cb(0), c(1))), 0, api.ErrRule},
		{hallK(), nil, 0, api.OK},
		{hallH(), nil, 0, api.OK},
		{hallK(), ways(full), 1, api.OK}, // a counter can be in many steps of one ring
		{hallK(), ways(full, ring), 0, api.ErrSum},
		{hallK(), ways(append(slices.Clone(full), w(0))), 0, api.ErrMany},
		{hall(1, 9, counter(0, 0, 10, 10)), ways(steps(w(0), cb(0))), 1, api.OK},
		{hall(1, 9, counter(0, 0, 10, 10)), ways(over), 0, api.ErrRule},
		{hall(1, 10, counter(0, 0, 10, 10)), ways(steps(w(0), cb(0))), 0, api.ErrRule}, // the sum is 0
		{hall(2, 9, counter(0, 0, 10, 10), counter(1, 1, 10, 10)), ways(steps(w(0), cb(0)), steps(w(1), cb(1))), 2, api.OK},
		// The same windows can be in steps of two rings.
		{hall(1, 9, counter(0, 0, 10, 10), counter(0, 0, 12, 12)), ways(steps(w(0), cb(0)), steps(w(0), cb(1))), 2, api.OK},
		{hall(2, 9, counter(0, 0, 10, 10), counter(1, 1, 10, 10)), ways(steps(w(0), cb(0), w(0), w(1), cb(1), wb(0)), steps(w(1), cb(1))), 0, api.ErrRule},
		{hall(2, 9, counter(0, 0, 20, 20), counter(1, 1, 20, 20)), ways(steps(w(0), cb(0), w(0), w(1), cb(1), wb(0)), steps(w(1), cb(1))), 0, api.ErrSum},
		{two, ways(ring, steps(c(2), cb(3))), 2, api.OK},
		{two, ways(steps(c(2), cb(3)), ring), 2, api.OK},
		{two, ways(ring, steps(c(2), cb(3)), ring), 0, api.ErrSum},
		{two, ways(steps(c(2), cb(3)), ring, ring), 0, api.ErrSum},
		{hallK(), ways(ring, steps(c(0), cb(2))), 0, api.ErrSum},
		{hallK(), ways(steps(cb(1), c(0)), steps(cb(2), c(0))), 0, api.ErrSum},
		{hallK(), ways(ring, nil), 0, api.ErrRule},
		{hallK(), ways(nil), 0, api.ErrRule},
		{hallK(), ways(steps()), 0, api.ErrRule},
		{hallK(), ways(steps(c(1), cb(2))), 0, api.ErrRule},
		{hallK(), ways(steps(c(0), cb(1), w(1))), 0, api.ErrRule},
		{hallK(), ways(steps(c(0), cb(1), c(0))), 0, api.ErrRule},
		{hallK(), ways(steps(c(0), w(0))), 0, api.ErrRule},
		{hallK(), ways(steps(c(0), w(1), cb(1))), 0, api.ErrRule},
		{hallK(), ways(steps(cb(1))), 0, api.ErrRule}, // below 0, but it leads to another place
		{hallK(), ways(ring, ring, steps(c(1), cb(2))), 0, api.ErrRule},
		{hallK(), ways(steps(c(3))), 0, api.ErrRange},
		{hallK(), ways(steps(w(2))), 0, api.ErrRange},
		{hallK(), ways(nil, ring, append(slices.Clone(ring), cb(-1))), 0, api.ErrRange},
		{hallK(), ways(nil, long), 0, api.ErrMany},
		{hallK(), ways(steps(w(99)), nil, long), 0, api.ErrMany},
		{hallK(), slices.Repeat(ways(ring), 20), 0, api.ErrSum},
		{hallK(), slices.Repeat(ways(ring), 21), 0, api.ErrMany},
		{hallK(), slices.Repeat(ways(steps(w(99))), 21), 0, api.ErrMany},
		{hallK(), slices.Repeat(ways(steps(w(99))), 20), 0, api.ErrRange},
		{hallK(), make([][]api.CutStep, 20), 0, api.ErrRule},
	} {
		if n, e := cut.CheckRings(x.h, x.rings); n != x.n || e != x.e {
			t.Error(i, x.h, x.rings, n, e)
		}
	}
	for _, n := range strays(3) {
		for _, bad := range []api.CutStep{c(n), cb(n), w(n), wb(n)} {
			if many, e := cut.CheckRings(hallH(), ways(nil, steps(c(0), bad))); many != 0 || e != api.ErrRange {
				t.Error(bad, many, e)
			}
		}
	}
}

// P5.6: as many rings as there are counters are apart.
func TestTenRings(t *testing.T) {
	h := hall(10, 9)
	var rings [][]api.CutStep
	for i := range 10 {
		h.Counters = append(h.Counters, counter(i, i, 10, 10))
		rings = append(rings, steps(w(i), cb(i)))
	}
	if n, e := cut.CheckRings(h, rings); n != 10 || e != api.OK {
		t.Error(n, e)
	}
	if n, e := cut.CheckRings(h, append(rings, rings[0])); n != 0 || e != api.ErrSum {
		t.Error(n, e)
	}
	if n, e := cut.CheckRings(h, append(rings, rings[9])); n != 0 || e != api.ErrSum {
		t.Error(n, e)
	}
}

// P5.7
func TestWrong(t *testing.T) {
	never, may, always := api.CutNever, api.CutMay, api.CutAlways
	all := slices.Repeat([]api.CutCounter{counter(0, 0, 10, 10)}, 10)
	pairs := hall(5, 50)
	for i := range 5 {
		pairs.Counters = append(pairs.Counters, counter(i, i, 1, 1), counter(i, i, 2, 2))
	}
	for i, x := range []struct {
		h     api.CutHall
		wrong []int
		lists int
		kinds []int
	}{
		{hallH(), nil, 1, []int{never, never, never}},
		{hallJ(), []int{0}, 3, []int{may, may, may}},
		{hallK(), []int{0}, 1, []int{always, never, never}},
		{hall(1, 9), nil, 1, nil},
		{largest(), nil, 1, slices.Repeat([]int{never}, 10)},
		{hall(2, 50, counter(0, 0, 1, 2), counter(0, 0, 3, 4), counter(1, 1, 10, 10), counter(1, 1, 20, 20), counter(0, 1, 13, 24)),
			[]int{0, 2}, 3, []int{may, may, may, may, never}},
		{hall(1, 9, counter(0, 0, 10, 10)), []int{0}, 1, []int{always}},
		{hall(1, 9, counter(0, 0, 10, 10), counter(0, 0, 3, 4), counter(0, 0, 11, 12)), []int{0, 2}, 1, []int{always, never, always}},
		{hall(1, 9, counter(0, 0, 3, 4), counter(0, 0, 5, 5), counter(0, 0, 4, 4)), []int{1}, 1, []int{never, always, never}},
		{hall(1, 9, all...), []int{0, 1, 2, 3, 4, 5, 6, 7, 8, 9}, 1, slices.Repeat([]int{always}, 10)},
		{hall(1, 10, all...), nil, 1, slices.Repeat([]int{never}, 10)},
		{hall(1, 9, counter(0, 0, 1, 1), counter(0, 0, 2, 2), counter(0, 0, 3, 3)), []int{0, 1}, 3, []int{may, may, may}},
		// All but one of ten that contradict one another are wrong.
		{hall(1, 9, counter(0, 0, 0, 0), counter(0, 0, 1, 1), counter(0, 0, 2, 2), counter(0, 0, 3, 3), counter(0, 0, 4, 4), counter(0, 0, 5, 5),
			counter(0, 0, 6, 6), counter(0, 0, 7, 7), counter(0, 0, 8, 8), counter(0, 0, 9, 9)),
			[]int{0, 1, 2, 3, 4, 5, 6, 7, 8}, 10, slices.Repeat([]int{may}, 10)},
		{pairs, []int{0, 2, 4, 6, 8}, 32, slices.Repeat([]int{may}, 10)},
		// The first of the lists 1 2, 0 3 is that with the least first element.
		{hall(1, 9, counter(0, 0, 1, 2), counter(0, 0, 3, 4), counter(0, 0, 3, 4), counter(0, 0, 1, 2)), []int{0, 3}, 2, []int{may, may, may, may}},
		// And here that with the least second one: 0 1, 2 3.
		{hall(1, 9, counter(0, 0, 1, 2), counter(0, 0, 1, 2), counter(0, 0, 3, 4), counter(0, 0, 3, 4)), []int{0, 1}, 2, []int{may, may, may, may}},
		// Either one of two can be wrong, but not the third one.
		{hall(2, 9, counter(0, 1, 18, 18), counter(0, 0, 8, 8), counter(1, 1, 9, 9)), []int{0}, 2, []int{may, may, never}},
	} {
		wrong, e := cut.Wrong(x.h)
		if !slices.Equal(wrong, x.wrong) || e != api.OK {
			t.Error(i, x.h, wrong, e)
		}
		if n, e := cut.Lists(x.h); n != x.lists || e != api.OK {
			t.Error(i, x.h, n, e)
		}
		for k := range x.h.Counters {
			if n, e := cut.Kind(x.h, k); n != x.kinds[k] || e != api.OK {
				t.Error(i, x.h, k, n, e)
			}
		}
		for _, k := range strays(len(x.h.Counters)) {
			if n, e := cut.Kind(x.h, k); n != 0 || e != api.ErrArg {
				t.Error(i, x.h, k, n, e)
			}
		}
	}
}

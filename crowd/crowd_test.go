package crowd_test

import (
	"math"
	"slices"
	"testing"

	"quinella/api"
	"quinella/crowd"
)

func rg(lo, hi int64) api.Range { return api.Range{Lo: lo, Hi: hi} }

func person(lo, hi, until int64) api.CrowdPerson {
	return api.CrowdPerson{Come: rg(lo, hi), Until: until}
}

func people(several ...api.CrowdPerson) []api.CrowdPerson { return several }

func hall(minutes int64, several ...api.CrowdPerson) api.CrowdHall {
	return api.CrowdHall{Minutes: minutes, People: several}
}

func longs(numbers ...int64) []int64 { return numbers }

// hallH is that of the chapter's examples.
func hallH() api.CrowdHall {
	return hall(5, person(1, 2, 3), person(1, 3, 3), person(2, 2, 3), person(4, 5, 4), person(3, 3, 2))
}

// same is a hall of people who are all alike.
func same(minutes int64, many int, p api.CrowdPerson) api.CrowdHall {
	return hall(minutes, slices.Repeat(people(p), many)...)
}

// full is a hall at its limits: each of the last 15 minutes is the only one of one person, and 15 others have all the time.
func full() api.CrowdHall {
	h := same(60, 15, person(1, 1, 60))
	for minute := int64(46); minute <= 60; minute++ {
		h.People = append(h.People, person(1, minute, minute))
	}
	return h
}

// farInts and farLongs are numbers at the ends of their types, and such that look small in fewer bits.
var farInts = []int{math.MinInt64, math.MinInt64 + 1, math.MinInt32, -(1 << 32) + 1, math.MaxInt32, 1<<32 + 1, math.MaxInt64 - 1, math.MaxInt64}
var farLongs = []int64{math.MinInt64, math.MinInt64 + 1, math.MinInt32, -(1 << 32) + 1, math.MaxInt32, 1<<32 + 1, math.MaxInt64 - 1, math.MaxInt64}

type badHall struct {
	h api.CrowdHall
	e api.Errno
}

// badPeople are not valid in a hall of five minutes.
func badPeople() []api.CrowdPerson {
	bad := people(person(2, 1, 1), person(5, 4, 5), person(5, 1, 5), person(0, 1, 1), person(0, 0, 1), person(1, 0, 1), person(1, 6, 1), person(6, 6, 1), person(6, 6, 5), person(6, 7, 5), person(1, 1, 6), person(1, 1, 0), person(1, 1, -1), person(-1, 1, 1), person(-2, -1, 1), person(-5, 5, 5), person(0, 0, 0), person(0, 5, 5), person(0, 6, 6), person(5, 5, 7))
	for _, n := range farLongs {
		bad = append(bad, person(n, 1, 1), person(1, n, 1), person(1, 1, n), person(n, n, 1), person(n, n, n))
	}
	return bad
}

// badHalls are halls that are not valid, and their errors.
func badHalls() []badHall {
	nobody, wrong := person(0, 0, 0), person(2, 1, 1)
	bad := []badHall{
		{api.CrowdHall{}, api.ErrRange},
		{hall(0), api.ErrRange},
		{hall(-1), api.ErrRange},
		{hall(61), api.ErrRange},
		{hall(0, person(0, 0, 0)), api.ErrRange},
		{hall(61, person(61, 61, 61)), api.ErrRange},
		{same(0, 31, wrong), api.ErrRange},
		{same(61, 31, person(1, 1, 1)), api.ErrRange},
		{same(1, 31, person(1, 1, 1)), api.ErrMany},
		{same(60, 31, person(1, 60, 60)), api.ErrMany},
		{same(5, 31, wrong), api.ErrMany},
		{same(5, 31, nobody), api.ErrMany},
		{same(5, 1000, person(1, 1, 1)), api.ErrMany},
		{same(5, 30, nobody), api.ErrArg},
		{hall(1, person(1, 1, 2)), api.ErrArg},
		{hall(1, person(1, 2, 1)), api.ErrArg},
		{hall(1, person(2, 2, 1)), api.ErrArg},
		{hall(60, person(1, 61, 60)), api.ErrArg},
		{hall(60, person(1, 60, 61)), api.ErrArg},
		{hall(60, person(0, 60, 60)), api.ErrArg},
	}
	for _, n := range farLongs {
		bad = append(bad, badHall{hall(n), api.ErrRange}, badHall{hall(n, person(1, 1, 1)), api.ErrRange}, badHall{same(n, 31, nobody), api.ErrRange})
	}
	for _, p := range badPeople() {
		bad = append(bad, badHall{hall(5, p), api.ErrArg}, badHall{hall(5, p, person(1, 5, 5)), api.ErrArg}, badHall{hall(5, person(1, 1, 5), person(5, 5, 1), p), api.ErrArg})
		last := same(5, 30, person(1, 5, 5))
		last.People[29] = p
		bad = append(bad, badHall{last, api.ErrArg})
	}
	return bad
}

// P9.1
func TestCheckHall(t *testing.T) {
	for i, h := range []api.CrowdHall{
		hallH(), full(), hall(1), hall(60), hall(1, person(1, 1, 1)), hall(60, person(60, 60, 60), person(1, 1, 60), person(60, 60, 1), person(1, 60, 1), person(1, 60, 60)),
		same(60, 30, person(1, 60, 60)), same(60, 30, person(60, 60, 60)), same(1, 30, person(1, 1, 1)), hall(5, person(5, 5, 1), person(1, 5, 3), person(2, 4, 1)), {Minutes: 3, People: []api.CrowdPerson{}},
	} {
		if e := crowd.CheckHall(h); e != api.OK {
			t.Error(i, h, e)
		}
	}
	for i, x := range badHalls() {
		if e := crowd.CheckHall(x.h); e != x.e {
			t.Error(i, x.h, e)
		}
	}
}

// fails reports functions that do not return an error, or return something beside it.
func fails(t *testing.T, h api.CrowdHall, want api.Errno) {
	t.Helper()
	if r, e := crowd.Machines(h); r != rg(0, 0) || e != want {
		t.Error("Machines", h, r, e)
	}
	if r, e := crowd.Crowd(h); r != rg(0, 0) || e != want {
		t.Error("Crowd", h, r, e)
	}
	for _, r := range []api.Range{rg(1, 1), rg(1, 5), rg(2, 1), rg(0, 99)} {
		if n, e := crowd.Bound(h, r.Lo, r.Hi); n != 0 || e != want {
			t.Error("Bound", h, r, n, e)
		}
	}
}

// failsWith is fails for the functions that have machines.
func failsWith(t *testing.T, h api.CrowdHall, machines int, want api.Errno) {
	t.Helper()
	for _, l := range [][]int64{nil, longs(1), make([]int64, len(h.People)), slices.Repeat(longs(1), len(h.People)), slices.Repeat(longs(9), len(h.People))} {
		if e := crowd.CheckPlan(h, machines, l); e != want {
			t.Error("CheckPlan", h, machines, l, e)
		}
		if s, n, e := crowd.Serve(h, machines, l); len(s) != 0 || n != 0 || e != want {
			t.Error("Serve", h, machines, l, s, n, e)
		}
	}
	if p, e := crowd.Plan(h, machines); len(p) != 0 || e != want {
		t.Error("Plan", h, machines, p, e)
	}
	for _, n := range []int{-1, 0, 1, 30, 99} {
		if m, e := crowd.Late(h, machines, n); m != 0 || e != want {
			t.Error("Late", h, machines, n, m, e)
		}
		if m, e := crowd.Room(h, machines, int64(n)); m != 0 || e != want {
			t.Error("Room", h, machines, n, m, e)
		}
	}
}

var badMachines = append([]int{-1, -2, -30, 31, 32, 60, 61}, farInts...)

// P9.1: all functions return the error of CheckHall before all others, and nothing with it.
func TestBadHalls(t *testing.T) {
	for _, x := range badHalls() {
		fails(t, x.h, x.e)
		for _, machines := range append([]int{0, 1, 30}, badMachines...) {
			failsWith(t, x.h, machines, x.e)
		}
	}
}

// P9.1: those with machines return ErrMany before all others but that of CheckHall.
func TestBadMachines(t *testing.T) {
	for _, machines := range badMachines {
		for _, h := range []api.CrowdHall{hallH(), full(), hall(1), hall(3, person(3, 3, 2)), same(4, 30, person(4, 4, 4))} {
			failsWith(t, h, machines, api.ErrMany)
		}
	}
}

// P9.2
func TestCheckPlan(t *testing.T) {
	late := hall(6, person(1, 6, 3), person(1, 6, 3), person(3, 3, 6))
	for i, x := range []struct {
		h        api.CrowdHall
		machines int
		plan     []int64
		e        api.Errno
	}{
		{hallH(), 2, longs(2, 3, 2, 4, 0), api.OK},
		{hallH(), 2, longs(3, 3, 2, 4, 0), api.OK},
		{hallH(), 2, longs(2, 3, 3, 4, 0), api.OK},
		{hallH(), 3, longs(3, 3, 3, 4, 0), api.OK},
		{hallH(), 30, longs(3, 3, 3, 4, 0), api.OK},
		{hallH(), 2, longs(3, 3, 3, 4, 0), api.ErrShut},
		{hallH(), 1, longs(2, 3, 2, 4, 0), api.ErrShut},
		{hallH(), 0, longs(2, 3, 2, 4, 0), api.ErrShut},
		{hallH(), 2, longs(1, 3, 2, 4, 0), api.ErrRule},
		{hallH(), 2, longs(4, 3, 2, 4, 0), api.ErrRule},
		{hallH(), 2, longs(0, 3, 2, 4, 0), api.ErrRule},
		{hallH(), 2, longs(2, 2, 2, 4, 0), api.ErrRule},
		{hallH(), 2, longs(2, 3, 2, 5, 0), api.ErrRule},
		{hallH(), 2, longs(2, 3, 2, 3, 0), api.ErrRule},
		{hallH(), 2, longs(2, 3, 2, 4, 3), api.ErrRule},
		{hallH(), 2, longs(2, 3, 2, 4, 2), api.ErrRule},
		{hallH(), 2, longs(2, 3, 2, 4, 1), api.ErrRule},
		{hallH(), 2, longs(2, 3, 2, 4, -1), api.ErrRule},
		{hallH(), 2, longs(3, 3, 3, 4, 3), api.ErrRule},
		{hallH(), 0, longs(3, 3, 3, 5, 0), api.ErrRule},
		{hallH(), 2, longs(2, 3, 2, 4), api.ErrEqual},
		{hallH(), 2, longs(2, 3, 2, 4, 0, 0), api.ErrEqual},
		{hallH(), 2, longs(9, 9, 9, 9), api.ErrEqual},
		{hallH(), 0, longs(3, 3, 3), api.ErrEqual},
		{hallH(), 2, nil, api.ErrEqual},
		{hallH(), 2, make([]int64, 1000), api.ErrEqual},
		{late, 2, longs(3, 3, 4), api.OK},
		{late, 2, longs(3, 3, 6), api.OK},
		{late, 3, longs(3, 3, 3), api.OK},
		{late, 2, longs(3, 3, 3), api.ErrShut},
		{late, 2, longs(2, 3, 4), api.ErrRule},
		{late, 2, longs(4, 3, 4), api.ErrRule},
		{hall(3), 0, nil, api.OK},
		{hall(3), 0, longs(), api.OK},
		{hall(3), 0, longs(0), api.ErrEqual},
		{hall(3, person(3, 3, 2)), 0, longs(0), api.OK},
		{hall(3, person(3, 3, 2)), 0, longs(3), api.ErrRule},
		{hall(3, person(3, 3, 3)), 0, longs(0), api.ErrRule},
		{hall(3, person(3, 3, 3)), 0, longs(3), api.ErrShut},
		{hall(3, person(3, 3, 3)), 1, longs(3), api.OK},
		{hall(1, person(1, 1, 1)), 1, longs(1), api.OK},
		{same(60, 30, person(60, 60, 60)), 30, slices.Repeat(longs(60), 30), api.OK},
		{same(60, 30, person(60, 60, 60)), 29, slices.Repeat(longs(60), 30), api.ErrShut},
		{same(60, 30, person(1, 1, 60)), 29, slices.Repeat(longs(60), 30), api.ErrShut},
		{same(60, 30, person(1, 1, 60)), 29, slices.Repeat(longs(1), 30), api.ErrShut},
		{same(60, 30, person(1, 1, 60)), 15, slices.Repeat(longs(1, 60), 15), api.OK},
		{same(60, 30, person(1, 1, 60)), 14, slices.Repeat(longs(1, 60), 15), api.ErrShut},
	} {
		if e := crowd.CheckPlan(x.h, x.machines, x.plan); e != x.e {
			t.Error(i, x, e)
		}
	}
	for at := range 5 {
		for _, n := range farLongs {
			plan := longs(2, 3, 2, 4, 0)
			plan[at] = n
			if e := crowd.CheckPlan(hallH(), 2, plan); e != api.ErrRule {
				t.Error(plan, e)
			}
		}
	}
}

// counted is a hall, how many machines it needs, and its first crowd with the greatest bound.
type counted struct {
	h        api.CrowdHall
	machines api.Range
	crowd    api.Range
	e        api.Errno
}

func countedHalls() []counted {
	return []counted{
		{hallH(), rg(1, 2), rg(2, 3), api.OK},
		{hall(3), rg(0, 0), rg(0, 0), api.ErrRule},
		{hall(60), rg(0, 0), rg(0, 0), api.ErrRule},
		{hall(3, person(3, 3, 2)), rg(0, 0), rg(0, 0), api.ErrRule},
		{same(3, 30, person(2, 3, 1)), rg(0, 0), rg(0, 0), api.ErrRule},
		{hall(1, person(1, 1, 1)), rg(1, 1), rg(1, 1), api.OK},
		{same(1, 30, person(1, 1, 1)), rg(30, 30), rg(1, 1), api.OK},
		{same(60, 30, person(1, 60, 60)), rg(1, 30), rg(60, 60), api.OK},
		{same(60, 30, person(60, 60, 60)), rg(30, 30), rg(60, 60), api.OK},
		{same(60, 30, person(1, 1, 60)), rg(1, 1), rg(1, 60), api.OK},
		{same(60, 30, person(31, 31, 60)), rg(1, 1), rg(1, 60), api.OK},
		{same(60, 30, person(32, 32, 60)), rg(2, 2), rg(32, 60), api.OK},
		{same(60, 30, person(31, 32, 60)), rg(1, 2), rg(32, 60), api.OK},
		{same(60, 30, person(1, 31, 59)), rg(1, 2), rg(31, 59), api.OK},
		{full(), rg(1, 1), rg(1, 46), api.OK},
		{hall(6, person(1, 6, 3), person(1, 6, 3), person(3, 3, 6)), rg(1, 2), rg(3, 3), api.OK},
		{hall(3, person(1, 1, 3), person(1, 1, 3), person(1, 1, 3)), rg(1, 1), rg(1, 3), api.OK},
		{hall(3, person(1, 1, 3), person(1, 1, 3), person(1, 1, 3), person(1, 3, 3)), rg(2, 2), rg(1, 3), api.OK},
		{hall(9, person(5, 5, 6), person(5, 6, 6), person(7, 7, 9), person(6, 6, 6)), rg(2, 2), rg(5, 6), api.OK},
		{hall(4, person(3, 4, 4), person(1, 2, 2)), rg(1, 1), rg(1, 2), api.OK},
		{hall(4, person(2, 3, 4), person(3, 3, 4), person(3, 3, 4)), rg(1, 2), rg(3, 4), api.OK},
		{hall(4, person(2, 2, 4), person(3, 3, 4), person(3, 3, 4)), rg(1, 1), rg(1, 4), api.OK},
		{hall(5, person(2, 2, 2), person(2, 2, 2), person(4, 4, 4), person(4, 4, 4)), rg(2, 2), rg(2, 2), api.OK},
		{hall(5, person(1, 1, 2), person(2, 2, 2), person(2, 2, 2)), rg(2, 2), rg(1, 2), api.OK},
		{hall(5, person(1, 1, 1), person(1, 1, 1), person(1, 1, 2), person(2, 2, 2)), rg(2, 2), rg(1, 1), api.OK},
		{hall(5, person(3, 3, 2), person(5, 5, 1), person(4, 5, 5)), rg(1, 1), rg(1, 5), api.OK},
		{hall(5, person(3, 3, 2), person(5, 5, 4), person(1, 5, 3)), rg(1, 1), rg(1, 3), api.OK},
	}
}

// P9.3, P9.4
func TestMachinesAndCrowd(t *testing.T) {
	for i, x := range countedHalls() {
		if r, e := crowd.Machines(x.h); r != x.machines || e != api.OK {
			t.Error(i, x.h, r, e)
		}
		if r, e := crowd.Crowd(x.h); r != x.crowd || e != x.e {
			t.Error(i, x.h, r, e)
		}
	}
}

// P9.2
func TestPlan(t *testing.T) {
	for i, x := range countedHalls() {
		for machines := range api.MaxCrowdMachines + 1 {
			plan, e := crowd.Plan(x.h, machines)
			if int64(machines) < x.machines.Hi {
				if len(plan) != 0 || e != api.ErrShut {
					t.Error(i, x.h, machines, plan, e)
				}
				continue
			}
			if e != api.OK || len(plan) != len(x.h.People) || crowd.CheckPlan(x.h, machines, plan) != api.OK {
				t.Error(i, x.h, machines, plan, e)
			}
		}
	}
}

// P9.4
func TestBound(t *testing.T) {
	crowded := same(60, 30, person(31, 60, 60))
	for i, x := range []struct {
		h        api.CrowdHall
		from, to int64
		n        int
		e        api.Errno
	}{
		{hallH(), 2, 3, 2, api.OK},
		{hallH(), 3, 3, 1, api.OK},
		{hallH(), 1, 3, 1, api.OK},
		{hallH(), 1, 5, 1, api.OK},
		{hallH(), 1, 2, 0, api.OK},
		{hallH(), 1, 1, 0, api.OK},
		{hallH(), 2, 2, 0, api.OK},
		{hallH(), 2, 4, 2, api.OK},
		{hallH(), 2, 5, 1, api.OK},
		{hallH(), 3, 4, 1, api.OK},
		{hallH(), 4, 4, 1, api.OK},
		{hallH(), 4, 5, 1, api.OK},
		{hallH(), 5, 5, 0, api.OK},
		{hallH(), 3, 2, 0, api.ErrRange},
		{hallH(), 5, 4, 0, api.ErrRange},
		{hallH(), 0, 2, 0, api.ErrRange},
		{hallH(), 0, 0, 0, api.ErrRange},
		{hallH(), 3, 6, 0, api.ErrRange},
		{hallH(), 6, 6, 0, api.ErrRange},
		{hallH(), 6, 5, 0, api.ErrRange},
		{hallH(), 1, 60, 0, api.ErrRange},
		{hallH(), -1, 5, 0, api.ErrRange},
		{hall(3), 1, 3, 0, api.OK},
		{hall(3), 1, 4, 0, api.ErrRange},
		{hall(3), 2, 1, 0, api.ErrRange},
		{hall(3, person(3, 3, 2)), 1, 3, 0, api.OK},
		{crowded, 60, 60, 30, api.OK},
		{crowded, 59, 60, 15, api.OK},
		{crowded, 57, 60, 8, api.OK},
		{crowded, 1, 60, 1, api.OK},
		{crowded, 1, 59, 0, api.OK},
		{crowded, 59, 59, 0, api.OK},
		{crowded, 1, 61, 0, api.ErrRange},
		{same(60, 30, person(1, 1, 29)), 1, 29, 2, api.OK},
		{same(60, 30, person(1, 1, 29)), 1, 30, 1, api.OK},
		{same(60, 30, person(1, 1, 29)), 1, 28, 0, api.OK},
		{same(60, 30, person(1, 1, 29)), 2, 60, 0, api.OK},
		{same(60, 29, person(1, 1, 29)), 1, 29, 1, api.OK},
		{same(1, 30, person(1, 1, 1)), 1, 1, 30, api.OK},
	} {
		if n, e := crowd.Bound(x.h, x.from, x.to); n != x.n || e != x.e {
			t.Error(i, x, n, e)
		}
	}
	for _, n := range farLongs {
		for _, r := range []api.Range{rg(n, n), rg(1, n), rg(n, 5), rg(-n, n)} {
			if b, e := crowd.Bound(hallH(), r.Lo, r.Hi); b != 0 || e != api.ErrRange {
				t.Error(r, b, e)
			}
		}
	}
}

// P9.5
func TestServe(t *testing.T) {
	bell := same(4, 5, person(4, 4, 4))
	late := hall(6, person(1, 6, 3), person(1, 6, 3), person(3, 3, 6))
	sooner := hall(4, person(1, 1, 4), person(1, 1, 2), person(2, 2, 2))
	for i, x := range []struct {
		h        api.CrowdHall
		machines int
		truth    []int64
		served   []int64
		shut     int
		e        api.Errno
	}{
		{hallH(), 1, longs(1, 1, 2, 4, 3), longs(1, 2, 3, 4, 0), 0, api.OK},
		{hallH(), 1, longs(2, 3, 2, 4, 3), longs(2, 3, 0, 4, 0), 1, api.OK},
		{hallH(), 2, longs(2, 3, 2, 5, 3), longs(2, 3, 2, 0, 0), 0, api.OK},
		{hallH(), 2, longs(2, 3, 2, 4, 3), longs(2, 3, 2, 4, 0), 0, api.OK},
		{hallH(), 30, longs(1, 1, 2, 4, 3), longs(1, 1, 2, 4, 0), 0, api.OK},
		{hallH(), 0, longs(2, 3, 2, 4, 3), longs(0, 0, 0, 0, 0), 4, api.OK},
		{hallH(), 0, longs(2, 3, 2, 5, 3), longs(0, 0, 0, 0, 0), 3, api.OK},
		{bell, 3, longs(4, 4, 4, 4, 4), longs(4, 4, 4, 0, 0), 2, api.OK},
		{bell, 5, longs(4, 4, 4, 4, 4), longs(4, 4, 4, 4, 4), 0, api.OK},
		{late, 1, longs(3, 3, 3), longs(3, 0, 4), 1, api.OK},
		{late, 1, longs(4, 3, 3), longs(0, 3, 4), 0, api.OK},
		{late, 1, longs(6, 6, 3), longs(0, 0, 3), 0, api.OK},
		{late, 1, longs(1, 1, 3), longs(1, 2, 3), 0, api.OK},
		{late, 1, longs(2, 2, 3), longs(2, 3, 4), 0, api.OK},
		{sooner, 1, longs(1, 1, 2), longs(3, 1, 2), 0, api.OK},
		{sooner, 2, longs(1, 1, 2), longs(1, 1, 2), 0, api.OK},
		{same(5, 4, person(1, 1, 3)), 1, longs(1, 1, 1, 1), longs(1, 2, 3, 0), 1, api.OK},
		{same(5, 4, person(1, 1, 5)), 1, longs(1, 1, 1, 1), longs(1, 2, 3, 4), 0, api.OK},
		{hall(3, person(1, 1, 3), person(1, 1, 2), person(1, 1, 1)), 1, longs(1, 1, 1), longs(3, 2, 1), 0, api.OK},
		{hall(3, person(1, 1, 1), person(1, 1, 1), person(1, 1, 2), person(1, 1, 2)), 1, longs(1, 1, 1, 1), longs(1, 0, 2, 0), 2, api.OK},
		{hall(3), 1, nil, nil, 0, api.OK},
		{hall(3, person(2, 3, 1)), 1, longs(3), longs(0), 0, api.OK},
		{same(1, 30, person(1, 1, 1)), 30, slices.Repeat(longs(1), 30), slices.Repeat(longs(1), 30), 0, api.OK},
		{same(60, 30, person(60, 60, 60)), 1, slices.Repeat(longs(60), 30), append(longs(60), make([]int64, 29)...), 29, api.OK},
		{hallH(), 1, longs(1, 1, 2, 4), nil, 0, api.ErrEqual},
		{hallH(), 1, longs(1, 1, 2, 4, 3, 3), nil, 0, api.ErrEqual},
		{hallH(), 1, longs(9, 9, 9, 9), nil, 0, api.ErrEqual},
		{hallH(), 1, nil, nil, 0, api.ErrEqual},
		{hall(3), 1, longs(1), nil, 0, api.ErrEqual},
		{hallH(), 1, longs(3, 1, 2, 4, 3), nil, 0, api.ErrRange},
		{hallH(), 1, longs(0, 1, 2, 4, 3), nil, 0, api.ErrRange},
		{hallH(), 1, longs(1, 4, 2, 4, 3), nil, 0, api.ErrRange},
		{hallH(), 1, longs(1, 1, 1, 4, 3), nil, 0, api.ErrRange},
		{hallH(), 1, longs(1, 1, 2, 6, 3), nil, 0, api.ErrRange},
		{hallH(), 1, longs(1, 1, 2, 3, 3), nil, 0, api.ErrRange},
		{hallH(), 1, longs(1, 1, 2, 4, 2), nil, 0, api.ErrRange},
		{hallH(), 1, longs(1, 1, 2, 4, 0), nil, 0, api.ErrRange},
		{hallH(), 0, longs(1, 1, 2, 4, 0), nil, 0, api.ErrRange},
	} {
		if l, n, e := crowd.Serve(x.h, x.machines, x.truth); !slices.Equal(l, x.served) || n != x.shut || e != x.e {
			t.Error(i, x, l, n, e)
		}
	}
	for at := range 5 {
		for _, n := range farLongs {
			truth := longs(2, 3, 2, 4, 3)
			truth[at] = n
			if l, s, e := crowd.Serve(hallH(), 2, truth); len(l) != 0 || s != 0 || e != api.ErrRange {
				t.Error(truth, l, s, e)
			}
		}
	}
}

// P9.6
func TestLate(t *testing.T) {
	for i, x := range []struct {
		h                api.CrowdHall
		machines, person int
		n                int64
		e                api.Errno
	}{
		{hallH(), 2, 0, 3, api.OK},
		{hallH(), 2, 1, 3, api.OK},
		{hallH(), 2, 2, 3, api.OK},
		{hallH(), 2, 3, 4, api.OK},
		{hallH(), 2, 4, 0, api.ErrRule},
		{hallH(), 1, 4, 0, api.ErrRule},
		{hallH(), 0, 4, 0, api.ErrRule},
		{hallH(), 1, 0, 0, api.ErrShut},
		{hallH(), 0, 3, 0, api.ErrShut},
		{hallH(), 2, 5, 0, api.ErrArg},
		{hallH(), 1, 5, 0, api.ErrArg},
		{hallH(), 2, -1, 0, api.ErrArg},
		{hall(3), 0, 0, 0, api.ErrArg},
		{hall(3), 30, 0, 0, api.ErrArg},
		{full(), 1, 30, 0, api.ErrArg},
		{full(), 1, 29, 60, api.OK},
		{full(), 1, 15, 46, api.OK},
		{full(), 1, 0, 45, api.OK},
		{full(), 2, 0, 60, api.OK},
		{full(), 0, 29, 0, api.ErrShut},
		{hall(3, person(1, 1, 3), person(1, 1, 3), person(1, 1, 3)), 1, 0, 3, api.OK},
		{hall(3, person(1, 1, 3), person(2, 2, 2), person(3, 3, 3)), 1, 0, 1, api.OK},
		{hall(3, person(1, 1, 3), person(2, 2, 2), person(3, 3, 3)), 2, 0, 3, api.OK},
		{hall(4, person(1, 1, 4), person(2, 2, 2), person(4, 4, 4)), 1, 0, 3, api.OK},
		{hall(4, person(1, 2, 4), person(4, 4, 4)), 1, 0, 3, api.OK},
		{hall(6, person(1, 6, 3), person(1, 6, 3), person(3, 3, 6)), 2, 2, 6, api.OK},
		{hall(6, person(1, 6, 3), person(1, 6, 3), person(3, 3, 6)), 2, 0, 3, api.OK},
		{same(60, 30, person(1, 1, 60)), 1, 7, 60, api.OK},
		{same(60, 30, person(1, 31, 60)), 1, 7, 60, api.OK},
		{same(60, 30, person(1, 32, 60)), 1, 7, 0, api.ErrShut},
		{same(60, 30, person(60, 60, 60)), 30, 0, 60, api.OK},
		{same(60, 30, person(60, 60, 60)), 29, 0, 0, api.ErrShut},
	} {
		if n, e := crowd.Late(x.h, x.machines, x.person); n != x.n || e != x.e {
			t.Error(i, x, n, e)
		}
	}
	for _, n := range farInts {
		if m, e := crowd.Late(hallH(), 2, n); m != 0 || e != api.ErrArg {
			t.Error(n, m, e)
		}
	}
}

// P9.7
func TestRoom(t *testing.T) {
	bell := same(4, 5, person(4, 4, 4))
	for i, x := range []struct {
		h        api.CrowdHall
		machines int
		minute   int64
		n        int
		e        api.Errno
	}{
		{hallH(), 2, 1, 2, api.OK},
		{hallH(), 2, 2, 1, api.OK},
		{hallH(), 2, 3, 1, api.OK},
		{hallH(), 2, 4, 1, api.OK},
		{hallH(), 2, 5, 2, api.OK},
		{hallH(), 3, 3, 2, api.OK},
		{hallH(), 30, 5, 30, api.OK},
		{hallH(), 30, 4, 29, api.OK},
		{hallH(), 30, 3, 29, api.OK},
		{hallH(), 1, 1, 0, api.ErrShut},
		{hallH(), 0, 5, 0, api.ErrShut},
		{hallH(), 2, 0, 0, api.ErrRange},
		{hallH(), 2, 6, 0, api.ErrRange},
		{hallH(), 2, -1, 0, api.ErrRange},
		{hallH(), 2, 60, 0, api.ErrRange},
		{hallH(), 1, 6, 0, api.ErrRange},
		{bell, 5, 4, 0, api.OK},
		{bell, 5, 3, 5, api.OK},
		{bell, 4, 3, 0, api.ErrShut},
		{hall(3), 0, 2, 0, api.OK},
		{hall(3), 30, 2, 30, api.OK},
		{hall(3), 7, 4, 0, api.ErrRange},
		{hall(3, person(3, 3, 2)), 0, 3, 0, api.OK},
		{hall(3, person(3, 3, 2)), 4, 3, 4, api.OK},
		{same(3, 3, person(1, 1, 3)), 1, 2, 0, api.OK},
		{same(3, 2, person(1, 1, 3)), 1, 2, 1, api.OK},
		{same(60, 30, person(1, 1, 60)), 1, 60, 1, api.OK},
		{same(60, 30, person(1, 1, 60)), 30, 60, 30, api.OK},
		{same(60, 30, person(60, 60, 60)), 30, 60, 0, api.OK},
		{same(60, 30, person(60, 60, 60)), 30, 59, 30, api.OK},
		{same(60, 29, person(60, 60, 60)), 30, 60, 1, api.OK},
		{same(60, 30, person(59, 59, 60)), 30, 60, 30, api.OK},
		{same(60, 30, person(59, 59, 60)), 20, 60, 10, api.OK},
		{same(60, 30, person(59, 59, 60)), 20, 59, 10, api.OK},
		{same(60, 30, person(59, 59, 60)), 15, 59, 0, api.OK},
		{same(60, 30, person(59, 59, 60)), 14, 59, 0, api.ErrShut},
		{full(), 1, 45, 1, api.OK},
		{full(), 1, 46, 0, api.OK},
	} {
		if n, e := crowd.Room(x.h, x.machines, x.minute); n != x.n || e != x.e {
			t.Error(i, x, n, e)
		}
	}
	for _, n := range farLongs {
		if m, e := crowd.Room(hallH(), 2, n); m != 0 || e != api.ErrRange {
			t.Error(n, m, e)
		}
	}
}

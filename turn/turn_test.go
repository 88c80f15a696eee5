package turn_test

import (
	"math"
	"slices"
	"testing"

	"quinella/api"
	"quinella/turn"
)

func list(numbers ...int) []int { return numbers }

func hall(threads ...int) api.TurnHall { return api.TurnHall{Threads: threads} }

func step(left int64, state ...int) api.TurnStep {
	return api.TurnStep{State: state, Left: left}
}

// The halls of the chapter's examples.
var (
	hallH = hall(2, 3)
	hallJ = hall(2, 3, 6)
	hallK = hall(1, 1)
)

// badHalls are halls that are not valid, with their errors.
var badHalls = []struct {
	h api.TurnHall
	e api.Errno
}{
	{hall(), api.ErrMany},
	{api.TurnHall{Threads: []int{}}, api.ErrMany},
	{hall(1, 1, 1, 1, 1, 1), api.ErrMany},
	{hall(0, 13, 99, 99, 99, 99), api.ErrMany},
	{hall(0), api.ErrRange},
	{hall(13), api.ErrRange},
	{hall(1, -1), api.ErrRange},
	{hall(12, 12, 12, 0), api.ErrRange},
	{hall(math.MaxInt, math.MaxInt), api.ErrRange},
	{hall(math.MinInt), api.ErrRange},
	{hall(12, 12, 5), api.ErrArg},
	{hall(6, 10, 12), api.ErrArg},
	{hall(12, 12, 12, 12, 12), api.ErrArg},
}

func TestCheckHall(t *testing.T) {
	for _, h := range []api.TurnHall{
		hallH, hallJ, hallK, hall(1), hall(12), hall(12, 12), hall(12, 12, 4),
		hall(1, 1, 1, 1, 1), hall(4, 4, 4, 7), hall(9, 9, 9), hall(3, 3, 3, 2, 2),
	} {
		if e := turn.CheckHall(h); e != api.OK {
			t.Error(h, e)
		}
	}
	for _, x := range badHalls {
		if e := turn.CheckHall(x.h); e != x.e {
			t.Error(x.h, e)
		}
	}
}

// stateCalls calls the functions that have a state, with other arguments that are wrong where they can be.
func stateCalls(h api.TurnHall, state []int) map[string]api.Errno {
	got := map[string]api.Errno{}
	_, _, got["Turn"] = turn.Turn(h, state, list(1, -1, 1), 9)
	_, _, got["Play"] = turn.Play(h, state, make([]int, 1001))
	got["CheckDoom"] = turn.CheckDoom(h, state, make([]api.TurnStep, 1001))
	_, got["Doom"] = turn.Doom(h, state)
	_, got["Next"] = turn.Next(h, state)
	_, got["Wait"] = turn.Wait(h, state)
	_, got["Lasts"] = turn.Lasts(h, state)
	return got
}

func TestErrorsOfHallsComeFirst(t *testing.T) {
	for _, x := range badHalls {
		got := stateCalls(x.h, list(-1, 99, 99))
		got["CheckCircle"] = turn.CheckCircle(x.h, nil)
		_, got["Circle"] = turn.Circle(x.h)
		_, got["Count"] = turn.Count(x.h)
		for name, e := range got {
			if e != x.e {
				t.Error(name, x.h, e)
			}
		}
	}
}

func TestErrorsOfStates(t *testing.T) {
	for _, x := range []struct {
		state []int
		e     api.Errno
	}{
		{nil, api.ErrEqual},
		{list(0), api.ErrEqual},
		{list(0, 0, 0), api.ErrEqual},
		{list(-1, 9, 0), api.ErrEqual},
		{list(3, 0), api.ErrRange},
		{list(0, 4), api.ErrRange},
		{list(-1, 0), api.ErrRange},
		{list(0, -1), api.ErrRange},
		{list(math.MaxInt, 0), api.ErrRange},
		{list(0, math.MinInt), api.ErrRange},
	} {
		for name, e := range stateCalls(hallH, x.state) {
			if e != x.e {
				t.Error(name, x.state, e)
			}
		}
	}
}

func TestTurn(t *testing.T) {
	for i, x := range []struct {
		state, pulls []int
		visit        int
		after        []int
		added        int
		e            api.Errno
	}{
		{list(1, 2), list(0), 1, list(2, 0), 2, api.OK},
		{list(1, 2), list(0, 1), 0, list(0, 3), 2, api.OK},
		{list(2, 2), list(0), 0, nil, 0, api.ErrTurn},
		{list(1, 3), list(0, 1), 1, nil, 0, api.ErrTurn},
		{list(1, 3), list(0), 1, list(2, 0), 3, api.OK},
		{list(2, 3), nil, 0, list(0, 3), 2, api.OK},
		{list(0, 0), list(), 1, list(0, 0), 0, api.OK},
		{list(0, 0), list(0, 1), 1, list(1, 0), 1, api.OK},
		{list(1, 1), list(0, 0), 1, nil, 0, api.ErrArg},
		{list(1, 1), list(1, 0), 1, nil, 0, api.ErrArg},
		{list(1, 1), list(0, 2), 1, nil, 0, api.ErrArg},
		{list(1, 1), list(-1, 0), 1, nil, 0, api.ErrArg},
		{list(1, 1), list(math.MinInt, math.MaxInt), 1, nil, 0, api.ErrArg},
		{list(1, 1), list(0), -1, nil, 0, api.ErrArg},
		{list(1, 1), list(0), 2, nil, 0, api.ErrArg},
		{list(2, 2), list(0), 2, nil, 0, api.ErrArg}, // before ErrTurn
		{list(2, 2), list(0, 0), 0, nil, 0, api.ErrArg},
	} {
		after, added, e := turn.Turn(hallH, x.state, x.pulls, x.visit)
		if !slices.Equal(after, x.after) || added != x.added || e != x.e {
			t.Error(i, after, added, e)
		}
	}
}

func TestPlay(t *testing.T) {
	long := slices.Repeat(list(0, 1), 500)
	for i, x := range []struct {
		state, row, after []int
		turns             int
		e                 api.Errno
	}{
		{list(0, 0), list(0, 1, 0), list(0, 1), 3, api.OK},
		{list(0, 0), list(0, 0, 0, 0), nil, 3, api.ErrTurn},
		{list(2, 0), list(1), nil, 0, api.ErrTurn},
		{list(2, 3), nil, list(2, 3), 0, api.OK},
		{list(1, 2), list(1), list(2, 0), 1, api.OK},
		{list(1, 2), list(1, 0), nil, 1, api.ErrTurn},
		{list(0, 0), long, list(1, 0), 1000, api.OK},
		{list(0, 0), append(long[:1000:1000], 0), nil, 0, api.ErrMany},
		{list(0, 0), make([]int, 2000), nil, 0, api.ErrMany},
		{list(0, 0), append(long[:1000:1000], -1), nil, 0, api.ErrMany},
		{list(0, 0), list(2), nil, 0, api.ErrArg},
		{list(0, 0), list(-1), nil, 0, api.ErrArg},
		{list(2, 3), list(0, 0, 2), nil, 0, api.ErrArg}, // before ErrTurn
	} {
		after, turns, e := turn.Play(hallH, x.state, x.row)
		if !slices.Equal(after, x.after) || turns != x.turns || e != x.e {
			t.Error(i, after, turns, e)
		}
	}
}

func TestCheckCircle(t *testing.T) {
	long := slices.Repeat(list(0, 1), 500)
	for i, x := range []struct {
		h      api.TurnHall
		circle []int
		e      api.Errno
	}{
		{hallH, list(0, 1), api.OK},
		{hallH, list(0, 0, 1), api.OK},
		{hallH, list(0, 1, 0), api.OK},
		{hallH, list(0, 1, 1, 0), api.ErrTurn}, // safe once, not twice
		{hallH, list(0), api.ErrTurn},
		{hallH, list(1), api.ErrTurn},
		{hall(12, 2), list(1), api.ErrTurn},
		{hall(12, 12), list(0), api.ErrTurn}, // full in the thirteenth turn only
		{hall(1), list(0), api.OK},
		{hallK, list(0, 1), api.ErrTurn},
		{hallJ, list(0, 1, 0, 2), api.ErrTurn},
		{hall(3, 3, 6, 6), list(1, 0, 3, 1, 0, 2), api.OK},
		{hallH, long, api.OK},
		{hallH, nil, api.ErrMany},
		{hallH, list(), api.ErrMany},
		{hallH, append(long[:1000:1000], 0), api.ErrMany},
		{hallH, append(long[:1000:1000], 2), api.ErrMany},
		{hallH, list(0, 2), api.ErrArg},
		{hallH, list(-1, 0, 1), api.ErrArg},
		{hallK, list(0, 1, 0, 1, 9), api.ErrArg}, // before ErrTurn
	} {
		if e := turn.CheckCircle(x.h, x.circle); e != x.e {
			t.Error(i, e)
		}
	}
}

func TestCircle(t *testing.T) {
	for _, x := range []struct {
		h    api.TurnHall
		long int
	}{
		{hallH, 2}, {hall(1), 1}, {hall(12), 1}, {hall(2, 2), 2}, {hall(12, 12, 4), 3},
		{hall(4, 2, 4), 4}, {hall(4, 4, 4, 4), 4}, {hall(3, 3, 6, 6), 6}, {hall(6, 3, 6, 3), 6},
	} {
		circle, e := turn.Circle(x.h)
		if len(circle) != x.long || e != api.OK {
			t.Error(x.h, circle, e)
		}
		if e := turn.CheckCircle(x.h, circle); e != api.OK {
			t.Error(x.h, circle, e)
		}
	}
	for _, h := range []api.TurnHall{hallJ, hallK, hall(1, 12), hall(2, 3, 12), hall(1, 4, 4, 4)} {
		if circle, e := turn.Circle(h); len(circle) != 0 || e != api.ErrTurn {
			t.Error(h, circle, e)
		}
	}
}

func TestCheckDoom(t *testing.T) {
	all := []api.TurnStep{step(1, 0, 1), step(1, 1, 0), step(2, 0, 0)}
	many := slices.Repeat(all[:1], 1000)
	for i, x := range []struct {
		h     api.TurnHall
		state []int
		steps []api.TurnStep
		e     api.Errno
	}{
		{hallK, list(0, 0), all, api.OK},
		{hallK, list(1, 1), all, api.OK},
		{hallK, list(0, 0), []api.TurnStep{all[0], all[2]}, api.ErrSum},
		{hallK, list(0, 1), []api.TurnStep{all[0], all[2]}, api.ErrSum}, // all steps have to be right
		{hallK, list(0, 1), all[:1], api.OK},
		{hallK, list(1, 1), all[:1], api.OK}, // fuller than a step
		{hallK, list(1, 0), all[:1], api.ErrSum},
		{hallK, list(0, 0), nil, api.ErrSum},
		{hallK, list(1, 1), nil, api.ErrSum},
		{hallK, list(0, 0), []api.TurnStep{step(1, 0, 1), step(2, 1, 0), step(2, 0, 0)}, api.ErrSum},
		{hallK, list(0, 0), []api.TurnStep{step(1, 0, 1), step(2, 1, 0), step(1, 1, 0), step(2, 0, 0)}, api.OK},
		{hallK, list(0, 0), []api.TurnStep{step(1, 0, 1), step(1, 1, 0), step(2, 1, 0), step(2, 0, 0)}, api.OK},
		{hallK, list(0, 1), many, api.OK},
		{hallK, list(0, 1), append(many[:1000:1000], all[0]), api.ErrMany},
		{hallK, list(0, 1), append(many[:1000:1000], step(0)), api.ErrMany},
		{hallK, list(0, 1), []api.TurnStep{step(1<<40, 0, 1)}, api.OK},
		{hallK, list(0, 0), []api.TurnStep{step(1<<40-1, 0, 1), step(1<<40-1, 1, 0), step(1<<40, 0, 0)}, api.OK},
		{hallK, list(0, 0), []api.TurnStep{step(1<<40, 0, 1), step(1<<40, 1, 0), step(1<<40, 0, 0)}, api.ErrSum},
		{hallK, list(0, 1), []api.TurnStep{step(1<<40+1, 0, 1)}, api.ErrRange},
		{hallK, list(0, 1), []api.TurnStep{step(0, 0, 1)}, api.ErrRange},
		{hallK, list(0, 1), []api.TurnStep{step(math.MinInt64, 0, 1)}, api.ErrRange},
		{hallK, list(0, 1), []api.TurnStep{step(1, 0, 1), step(1, 0, 2)}, api.ErrRange},
		{hallK, list(0, 1), []api.TurnStep{step(1, 0, -1)}, api.ErrRange},
		{hallK, list(0, 1), []api.TurnStep{step(1, 0)}, api.ErrRange},
		{hallK, list(0, 1), []api.TurnStep{step(1, 0, 1, 0)}, api.ErrRange},
		{hallK, list(0, 1), []api.TurnStep{step(1)}, api.ErrRange},
		{hallK, list(0, 0), []api.TurnStep{step(1, 0, 0), step(0, 0, 0)}, api.ErrRange}, // before ErrSum
		{hallH, list(0, 0), []api.TurnStep{step(1, 0, 0)}, api.ErrSum},
		{hallH, list(1, 2), []api.TurnStep{step(2, 1, 2), step(1, 0, 3), step(1, 2, 0)}, api.OK},
		{hallH, list(1, 3), []api.TurnStep{step(2, 1, 2), step(1, 0, 3), step(1, 2, 0)}, api.OK},
		{hallH, list(1, 1), []api.TurnStep{step(2, 1, 2), step(1, 0, 3), step(1, 2, 0)}, api.ErrSum},
	} {
		if e := turn.CheckDoom(x.h, x.state, x.steps); e != x.e {
			t.Error(i, e)
		}
	}
}

func TestDoom(t *testing.T) {
	for _, x := range []struct {
		h     api.TurnHall
		state []int
	}{
		{hallK, list(0, 0)}, {hallK, list(1, 1)}, {hallH, list(1, 2)}, {hallH, list(2, 0)},
		{hallJ, list(0, 0, 0)}, {hallJ, list(2, 3, 6)}, {hall(1), list(1)}, {hall(3, 4, 5, 6), make([]int, 4)},
	} {
		steps, e := turn.Doom(x.h, x.state)
		if e != api.OK {
			t.Error(x.h, x.state, e)
		}
		if e := turn.CheckDoom(x.h, x.state, steps); e != api.OK {
			t.Error(x.h, x.state, steps, e)
		}
	}
	for _, x := range []struct {
		h     api.TurnHall
		state []int
	}{
		{hallH, list(0, 0)}, {hallH, list(0, 2)}, {hall(1), list(0)}, {hall(12), list(11)},
	} {
		if steps, e := turn.Doom(x.h, x.state); len(steps) != 0 || e != api.ErrNone {
			t.Error(x.h, x.state, steps, e)
		}
	}
}

func TestNext(t *testing.T) {
	for i, x := range []struct {
		h           api.TurnHall
		state, next []int
		e           api.Errno
	}{
		{hallH, list(0, 0), list(0, 1), api.OK},
		{hallH, list(0, 2), list(1), api.OK},
		{hallH, list(1, 1), list(0), api.OK},
		{hallH, list(1, 2), nil, api.ErrTurn},
		{hallH, list(2, 3), nil, api.ErrTurn},
		{hallK, list(0, 0), nil, api.ErrTurn},
		{hallJ, list(0, 0, 0), nil, api.ErrTurn},
		{hall(1), list(0), list(0), api.OK},
		{hall(1), list(1), nil, api.ErrTurn},
		{hall(4, 4, 4, 4), list(0, 0, 0, 0), list(0, 1, 2, 3), api.OK},
		{hall(4, 4, 4, 4), list(3, 2, 1, 0), list(0), api.OK},
		{hall(4, 4, 4, 4), list(3, 3, 1, 0), nil, api.ErrTurn},
	} {
		if next, e := turn.Next(x.h, x.state); !slices.Equal(next, x.next) || e != x.e {
			t.Error(i, next, e)
		}
	}
}

func TestWait(t *testing.T) {
	for i, x := range []struct {
		h           api.TurnHall
		state, wait []int
		e           api.Errno
	}{
		{hallH, list(1, 2), list(0), api.OK},
		{hallH, list(2, 2), list(0, 1), api.OK},
		{hallH, list(2, 3), nil, api.ErrTurn},
		{hallH, list(1, 1), nil, api.OK},
		{hallH, list(0, 3), list(1), api.OK},
		{hallK, list(0, 0), nil, api.ErrTurn},
		{hallK, list(0, 1), nil, api.ErrTurn},
		{hall(1), list(1), list(0), api.OK},
		{hall(4, 4, 4, 4), list(3, 3, 1, 0), list(0), api.OK}, // also the second one alone
		{hall(4, 4, 4, 4), list(3, 3, 2, 2), nil, api.ErrTurn},
		{hall(4, 4, 4, 4), list(3, 3, 1, 1), list(0, 2), api.OK},
		{hall(4, 4, 4, 4), list(3, 3, 2, 1), list(0, 2, 3), api.OK},
		{hallJ, list(0, 0, 0), nil, api.ErrTurn},
	} {
		if wait, e := turn.Wait(x.h, x.state); !slices.Equal(wait, x.wait) || e != x.e {
			t.Error(i, wait, e)
		}
	}
}

func TestLasts(t *testing.T) {
	for i, x := range []struct {
		h          api.TurnHall
		state, row []int
		e          api.Errno
	}{
		{hallJ, list(0, 0, 0), list(2, 0, 1, 0, 1, 0, 2, 0), api.OK},
		{hallH, list(1, 2), list(0), api.OK},
		{hallH, list(2, 0), nil, api.OK},
		{hallH, list(0, 0), nil, api.ErrNone},
		{hallK, list(0, 0), list(0), api.OK},
		{hallK, list(1, 1), nil, api.OK},
		{hall(1, 12), list(0, 0), make([]int, 12), api.OK},
		{hall(12, 1), list(0, 0), append(slices.Repeat(list(1), 11), 0), api.OK},
		{hall(12), list(12), nil, api.OK},
		{hall(12), list(11), nil, api.ErrNone},
	} {
		if row, e := turn.Lasts(x.h, x.state); !slices.Equal(row, x.row) || e != x.e {
			t.Error(i, row, e)
		}
	}
}

func TestCount(t *testing.T) {
	for _, x := range []struct {
		h api.TurnHall
		n int
	}{
		{hallH, 5}, {hallK, 0}, {hallJ, 0}, {hall(1), 1}, {hall(12), 12}, {hall(2, 2), 3},
	} {
		if n, e := turn.Count(x.h); n != x.n || e != api.OK {
			t.Error(x.h, n, e)
		}
	}
}

package turn_test

import (
	"fmt"
	"math"
	"math/rand"
	"reflect"
	"slices"
	"testing"

	"quinella/api"
	"quinella/turn"
)

// world is a hall that is looked at as the chapter defines it, by rows of all lengths up to the number of its states.
type world struct {
	h      api.TurnHall
	states [][]int
	long   map[string]int // turns of the longest safe row, up to the number of states
}

func key(state []int) string { return fmt.Sprint(state) }

// after returns the state after a turn in which all pull, or nil if a screw is full.
func after(h api.TurnHall, state []int, visit int) []int {
	next := slices.Clone(state)
	for w := range next {
		next[w]++
		if next[w] > h.Threads[w] {
			return nil
		}
	}
	next[visit] = 0
	return next
}

func statesOf(h api.TurnHall) [][]int {
	states := [][]int{nil}
	for _, threads := range h.Threads {
		var more [][]int
		for _, s := range states {
			for n := range threads + 1 {
				more = append(more, append(slices.Clone(s), n))
			}
		}
		states = more
	}
	return states
}

func worldOf(h api.TurnHall) world {
	x := world{h: h, states: statesOf(h), long: map[string]int{}}
	for range x.states {
		long := map[string]int{}
		for _, s := range x.states {
			for w := range s {
				if next := after(h, s, w); next != nil {
					long[key(s)] = max(long[key(s)], 1+x.long[key(next)])
				}
			}
		}
		x.long = long
	}
	return x
}

func (x world) isSafe(state []int) bool { return x.long[key(state)] == len(x.states) }

// rows calls visit with all safe rows from a state, in lexicographic order.
func (x world) rows(state, row []int, visit func([]int)) {
	visit(row)
	for w := range state {
		if next := after(x.h, state, w); next != nil {
			x.rows(next, append(slices.Clone(row), w), visit)
		}
	}
}

func smallHalls() []api.TurnHall {
	return []api.TurnHall{
		hallH, hallJ, hallK, hall(1), hall(3), hall(12), hall(2, 2), hall(3, 2), hall(1, 5),
		hall(2, 4, 4), hall(4, 2, 4), hall(3, 3, 3), hall(3, 2, 4), hall(2, 2, 5), hall(1, 2, 2, 2), hall(1, 1, 1, 1, 1),
	}
}

// sortedHalls returns all valid halls, but for the order of their windows.
func sortedHalls() []api.TurnHall {
	var halls []api.TurnHall
	var grow func(threads []int, least int)
	grow = func(threads []int, least int) {
		for n := least; n <= api.MaxTurnThreads && len(threads) < api.MaxTurnWindows; n++ {
			h := hall(append(slices.Clone(threads), n)...)
			if turn.CheckHall(h) == api.OK {
				halls = append(halls, h)
				grow(h.Threads, n)
			}
		}
	}
	grow(nil, 1)
	return halls
}

func TestStatesAreToldAsDefined(t *testing.T) {
	for _, h := range smallHalls() {
		x := worldOf(h)
		count := 0
		for _, s := range x.states {
			var windows []int
			for w := range s {
				if next := after(h, s, w); next != nil && x.isSafe(next) {
					windows = append(windows, w)
				}
			}
			next, e := turn.Next(h, s)
			if x.isSafe(s) {
				count++
				if !slices.Equal(next, windows) || e != api.OK {
					t.Error(h, s, next, e)
				}
			} else if len(next) != 0 || e != api.ErrTurn {
				t.Error(h, s, next, e)
			}
		}
		if n, e := turn.Count(h); n != count || e != api.OK {
			t.Error(h, n, e)
		}
	}
}

// P1.10
func TestEitherSafeOrDoomed(t *testing.T) {
	for _, h := range smallHalls() {
		x := worldOf(h)
		var all []api.TurnStep
		for _, s := range x.states {
			steps, e := turn.Doom(h, s)
			if x.isSafe(s) {
				if len(steps) != 0 || e != api.ErrNone {
					t.Error(h, s, steps, e)
				}
				continue
			}
			if len(steps) > api.MaxTurnStates || e != api.OK || turn.CheckDoom(h, s, steps) != api.OK {
				t.Error(h, s, steps, e)
			}
			all = append(all, api.TurnStep{State: s, Left: int64(x.long[key(s)]) + 1})
		}
		for _, s := range x.states {
			if e := turn.CheckDoom(h, s, all); (e == api.OK) == x.isSafe(s) || e != api.OK && e != api.ErrSum {
				t.Error(h, s, e)
			}
		}
	}
}

// right tells as the definition says it whether steps are right.
func right(h api.TurnHall, steps []api.TurnStep) bool {
	for _, s := range steps {
		for w := range s.State {
			next := after(h, s.State, w)
			if next != nil && !slices.ContainsFunc(steps, func(o api.TurnStep) bool { return o.Left < s.Left && asFull(next, o.State) }) {
				return false
			}
		}
	}
	return true
}

func asFull(state, other []int) bool {
	for w, n := range state {
		if n < other[w] {
			return false
		}
	}
	return true
}

func TestStepsAreCheckedAsDefined(t *testing.T) {
	r := rand.New(rand.NewSource(5))
	seen := map[api.Errno]int{}
	for range 20000 {
		h := hall(1+r.Intn(3), 1+r.Intn(3), 1+r.Intn(2))
		states := statesOf(h)
		var steps []api.TurnStep
		for range r.Intn(6) {
			steps = append(steps, api.TurnStep{State: states[r.Intn(len(states))], Left: int64(1 + r.Intn(3))})
		}
		state := states[r.Intn(len(states))]
		want := api.ErrSum
		if right(h, steps) && slices.ContainsFunc(steps, func(s api.TurnStep) bool { return asFull(state, s.State) }) {
			want = api.OK
		}
		seen[want]++
		if e := turn.CheckDoom(h, state, steps); e != want {
			t.Fatal(h, state, steps, e)
		}
	}
	if len(seen) != 2 {
		t.Error(seen)
	}
}

// P1.11
func TestImpulsesAreCounted(t *testing.T) {
	r := rand.New(rand.NewSource(11))
	sum := func(state []int) int {
		total := 0
		for _, n := range state {
			total += n
		}
		return total
	}
	for _, h := range smallHalls() {
		state := make([]int, len(h.Threads))
		begin, pulled, added := 0, 0, 0
		for range 300 {
			var pulls []int
			for w := range h.Threads {
				if r.Intn(2) == 0 {
					pulls = append(pulls, w)
				}
			}
			next, more, e := turn.Turn(h, state, pulls, r.Intn(len(h.Threads)))
			if e != api.OK {
				state = statesOf(h)[r.Intn(len(statesOf(h)))]
				begin, pulled, added = sum(state), 0, 0
				continue
			}
			state, pulled, added = next, pulled+len(pulls), added+more
			if added+sum(state) != begin+pulled {
				t.Fatal(h, state, begin, pulled, added)
			}
		}
	}
}

// P1.12
func TestSafeStatesAreKept(t *testing.T) {
	isSafe := func(h api.TurnHall, state []int) bool {
		_, e := turn.Next(h, state)
		return e == api.OK
	}
	for _, h := range smallHalls() {
		for _, s := range statesOf(h) {
			next, e := turn.Next(h, s)
			if e != api.OK {
				continue
			}
			if len(next) == 0 {
				t.Error(h, s)
			}
			for _, pulls := range subsets(len(s)) {
				for _, w := range next {
					if to, _, e := turn.Turn(h, s, pulls, w); e != api.OK || !isSafe(h, to) {
						t.Error(h, s, pulls, w, to, e)
					}
				}
			}
			for w := range s {
				if less := slices.Clone(s); less[w] > 0 {
					less[w]--
					if !isSafe(h, less) {
						t.Error(h, s, less)
					}
				}
				more := hall(slices.Clone(h.Threads)...)
				more.Threads[w]++
				if turn.CheckHall(more) == api.OK && !isSafe(more, s) {
					t.Error(h, s, more)
				}
			}
		}
	}
}

// subsets returns all increasing lists of windows, shorter ones first, those of a length in lexicographic order.
func subsets(windows int) [][]int {
	lists := [][]int{nil}
	for at := 0; at < len(lists); at++ {
		l := lists[at]
		from := 0
		if len(l) > 0 {
			from = l[len(l)-1] + 1
		}
		for w := from; w < windows; w++ {
			lists = append(lists, append(slices.Clone(l), w))
		}
	}
	return lists
}

// P1.13
func TestCirclesBeginAnywhere(t *testing.T) {
	for _, h := range sortedHalls() {
		circle, e := turn.Circle(h)
		if e != api.OK {
			continue
		}
		for i := range circle {
			turned := slices.Concat(circle[i:], circle[:i])
			if e := turn.CheckCircle(h, turned); e != api.OK {
				t.Error(h, turned, e)
			}
			state, _, e := turn.Play(h, make([]int, len(h.Threads)), circle[:i+1])
			if _, f := turn.Next(h, state); e != api.OK || f != api.OK {
				t.Error(h, circle, i, e, f)
			}
		}
		if e := turn.CheckCircle(h, slices.Repeat(circle, 2)); e != api.OK {
			t.Error(h, circle, e)
		}
	}
}

// isCircle looks at the turns between visits, round the circle.
func isCircle(h api.TurnHall, row []int) bool {
	for w, threads := range h.Threads {
		for i := range row {
			if !slices.Contains(slices.Concat(row[i:], row[:i])[:min(threads, len(row))], w) {
				return false
			}
		}
	}
	return true
}

func TestCirclesAreCheckedAsDefined(t *testing.T) {
	for _, h := range append(smallHalls(), hall(3, 3, 6, 6)) {
		shortest := 0
		rows := [][]int{nil}
		for len(rows[0]) < 7 {
			var more [][]int
			for _, row := range rows {
				for w := range h.Threads {
					more = append(more, append(slices.Clone(row), w))
				}
			}
			rows = more
			for _, row := range rows {
				good := isCircle(h, row)
				if good && shortest == 0 {
					shortest = len(row)
				}
				if e := turn.CheckCircle(h, row); good != (e == api.OK) || !good && e != api.ErrTurn {
					t.Fatal(h, row, e)
				}
			}
			if len(rows) > 4096 {
				break
			}
		}
		if circle, _ := turn.Circle(h); len(circle) != shortest {
			t.Error(h, circle, shortest)
		}
	}
}

// P1.14
func TestDenseHallsAreDoomed(t *testing.T) {
	const unit = 27720 // 12 of them and each lesser number divide it
	for _, h := range sortedHalls() {
		dense := 0
		for _, threads := range h.Threads {
			dense += unit / threads
		}
		count, _ := turn.Count(h)
		circle, e := turn.Circle(h)
		if dense > unit && (count != 0 || e != api.ErrTurn) || dense*6 <= unit*5 && e != api.OK {
			t.Error(h, count, circle, e)
		}
	}
}

// P1.15
func TestWindowsCanBeNamedOtherwise(t *testing.T) {
	r := rand.New(rand.NewSource(15))
	for _, h := range append(smallHalls(), hall(3, 3, 4, 4), hall(2, 3, 11)) {
		name := r.Perm(len(h.Threads))
		rename := func(list []int) []int {
			named := make([]int, len(list))
			for w, n := range list {
				named[name[w]] = n
			}
			return named
		}
		other := hall(rename(h.Threads)...)
		one, e := turn.Circle(h)
		two, f := turn.Circle(other)
		if len(one) != len(two) || e != f {
			t.Error(h, other, one, two)
		}
		for _, s := range statesOf(h) {
			_, e := turn.Next(h, s)
			_, f := turn.Next(other, rename(s))
			one, _ := turn.Lasts(h, s)
			two, _ := turn.Lasts(other, rename(s))
			if e != f || len(one) != len(two) {
				t.Error(h, other, s, e, f)
			}
		}
	}
}

// P1.16
func TestAsFewAsCanBeWait(t *testing.T) {
	for _, h := range append(smallHalls(), hall(4, 4, 4, 4)) {
		safe := map[string]bool{}
		for _, s := range statesOf(h) {
			_, e := turn.Next(h, s)
			safe[key(s)] = e == api.OK
		}
		for _, s := range statesOf(h) {
			var want []int
			f := api.ErrTurn
			for _, waiting := range subsets(len(s)) {
				if f != api.OK && leadsToSafe(h, s, waiting, safe) {
					want, f = waiting, api.OK
				}
			}
			wait, e := turn.Wait(h, s)
			if !slices.Equal(wait, want) || e != f {
				t.Error(h, s, wait, e, want, f)
			}
			if safe[key(s)] != (e == api.OK && len(wait) == 0) {
				t.Error(h, s, wait, e)
			}
		}
	}
}

// leadsToSafe reports whether some visit leads to a safe state when only those pull that do not wait.
func leadsToSafe(h api.TurnHall, state, waiting []int, safe map[string]bool) bool {
	var pulls []int
	for w := range h.Threads {
		if !slices.Contains(waiting, w) {
			pulls = append(pulls, w)
		}
	}
	for w := range h.Threads {
		if to, _, e := turn.Turn(h, state, pulls, w); e == api.OK && safe[key(to)] {
			return true
		}
	}
	return false
}

// P1.17
func TestNoRowLastsLonger(t *testing.T) {
	for _, h := range smallHalls() {
		x := worldOf(h)
		for _, s := range x.states {
			row, e := turn.Lasts(h, s)
			if x.isSafe(s) {
				if len(row) != 0 || e != api.ErrNone {
					t.Error(h, s, row, e)
				}
				continue
			}
			var want []int
			x.rows(s, nil, func(r []int) {
				if len(r) > len(want) {
					want = r
				}
			})
			if !slices.Equal(row, want) || e != api.OK || len(row) >= len(x.states) {
				t.Error(h, s, row, want, e)
			}
			for n := range len(row) + 1 {
				if _, turns, e := turn.Play(h, s, row[:n]); turns != n || e != api.OK {
					t.Error(h, s, row, n, e)
				}
			}
		}
	}
}

// everything calls all functions, and returns what they do. With an error every other result has to be its zero value.
func everything(t *testing.T, h api.TurnHall, state, row []int, visit int, steps []api.TurnStep) []any {
	var all []any
	keep := func(e api.Errno, results ...any) {
		all = append(append(all, e), results...)
		for _, x := range results {
			if v := reflect.ValueOf(x); e != api.OK && !v.IsZero() && (v.Kind() != reflect.Slice || v.Len() > 0) {
				t.Error(h, state, row, visit, steps, e, x)
			}
		}
	}
	keep(turn.CheckHall(h))
	keep(turn.CheckCircle(h, row))
	keep(turn.CheckDoom(h, state, steps))
	after, added, e := turn.Turn(h, state, row, visit)
	keep(e, after, added)
	after, turns, e := turn.Play(h, state, row)
	if e == api.ErrTurn {
		all = append(all, turns)
		turns = 0
	}
	keep(e, after, turns)
	circle, e := turn.Circle(h)
	keep(e, circle)
	doom, e := turn.Doom(h, state)
	keep(e, doom)
	next, e := turn.Next(h, state)
	keep(e, next)
	wait, e := turn.Wait(h, state)
	keep(e, wait)
	lasts, e := turn.Lasts(h, state)
	keep(e, lasts)
	count, e := turn.Count(h)
	keep(e, count)
	return all
}

// P1, R2, R4, R5, R9, R10
func TestAnyArguments(t *testing.T) {
	r := rand.New(rand.NewSource(1))
	odd := []int{0, 1, 2, 3, 4, 12, 13, -1, 1000, math.MaxInt, math.MinInt}
	numbers := func() []int {
		list := make([]int, r.Intn(5))
		for i := range list {
			list[i] = odd[r.Intn(1+r.Intn(len(odd)))]
		}
		return list
	}
	for range 20000 {
		h, state, row, visit := hall(numbers()...), numbers(), numbers(), odd[r.Intn(len(odd))]
		steps := []api.TurnStep{step(int64(odd[r.Intn(len(odd))]), numbers()...), step(1, numbers()...)}[:r.Intn(3)]
		sameThreads, sameState, sameRow := slices.Clone(h.Threads), slices.Clone(state), slices.Clone(row)
		sameSteps := make([]api.TurnStep, len(steps))
		for i, s := range steps {
			sameSteps[i] = step(s.Left, slices.Clone(s.State)...)
		}
		one := everything(t, h, state, row, visit, steps)
		two := everything(t, hall(sameThreads...), sameState, sameRow, visit, sameSteps)
		if !reflect.DeepEqual(one, two) {
			t.Fatal(h, state, row, visit, steps, one, two)
		}
		if !slices.Equal(h.Threads, sameThreads) || !slices.Equal(state, sameState) || !slices.Equal(row, sameRow) || fmt.Sprint(steps) != fmt.Sprint(sameSteps) {
			t.Fatal("an argument is changed", sameThreads, sameState, sameRow, sameSteps)
		}
	}
}

// R3
func TestNilIsEmpty(t *testing.T) {
	for _, h := range []api.TurnHall{hall(), hallH, hallK} {
		for _, state := range [][]int{nil, {0, 0}, {2, 3}} {
			one := everything(t, h, state, nil, 0, nil)
			two := everything(t, hall(append([]int{}, h.Threads...)...), append([]int{}, state...), []int{}, 0, []api.TurnStep{})
			if fmt.Sprint(one) != fmt.Sprint(two) {
				t.Error(h, state, one, two)
			}
		}
	}
}

// R4
func TestResultsShareNoMemory(t *testing.T) {
	state, row := list(1, 2), list(1)
	after, _, _ := turn.Turn(hallH, state, row, 1)
	played, _, _ := turn.Play(hallH, state, nil)
	steps, _ := turn.Doom(hallK, list(0, 0))
	want := key(steps[1].State)
	spoil := func(list []int) {
		for i := range list[:cap(list)] {
			list[:cap(list)][i] = -7
		}
	}
	spoil(after)
	spoil(played)
	spoil(steps[0].State)
	if !slices.Equal(state, list(1, 2)) || !slices.Equal(row, list(1)) || key(steps[1].State) != want {
		t.Error(state, row, steps)
	}
	circle, _ := turn.Circle(hallH)
	spoil(circle)
	if again, _ := turn.Circle(hallH); turn.CheckCircle(hallH, again) != api.OK {
		t.Error(again)
	}
}

package crowd_test

import (
	"math/rand"
	"reflect"
	"slices"
	"testing"

	"quinella/api"
	"quinella/crowd"
)

// windows are ranges of minutes: those that a plan can have for each person.
type windows []api.Range

// windowsOf are those of the people who can come in time, and who they are.
func windowsOf(h api.CrowdHall) (windows, []int) {
	var w windows
	var who []int
	for i, p := range h.People {
		if p.Come.Lo <= p.Until {
			w, who = append(w, rg(min(p.Come.Hi, p.Until), p.Until)), append(who, i)
		}
	}
	return w, who
}

// soonest are the windows of those who come as soon as they can.
func soonest(h api.CrowdHall) windows {
	var w windows
	for _, p := range h.People {
		if p.Come.Lo <= p.Until {
			w = append(w, rg(p.Come.Lo, p.Until))
		}
	}
	return w
}

// fewestOfAll returns how many have the same minute at least, found by trying all minutes for each window.
func (w windows) fewestOfAll() int {
	var there [api.MaxCrowdMinutes + 1]int
	fewest := len(w)
	var try func(at, most int)
	try = func(at, most int) {
		if at == len(w) {
			fewest = min(fewest, most)
			return
		}
		for minute := w[at].Lo; minute <= w[at].Hi; minute++ {
			there[minute]++
			try(at+1, max(most, there[minute]))
			there[minute]--
		}
	}
	try(0, 0)
	return fewest
}

// fit reports whether all windows can have minutes, found by giving them one by one, and moving those that have one already.
func (w windows) fit(machines int) bool {
	var has [api.MaxCrowdMinutes + 1][]int
	var seen [api.MaxCrowdMinutes + 1]bool
	var give func(one int) bool
	give = func(one int) bool {
		for minute := w[one].Lo; minute <= w[one].Hi; minute++ {
			if seen[minute] {
				continue
			}
			seen[minute] = true
			if len(has[minute]) < machines {
				has[minute] = append(has[minute], one)
				return true
			}
			for i, other := range has[minute] {
				if give(other) {
					has[minute][i] = one
					return true
				}
			}
		}
		return false
	}
	for one := range w {
		seen = [api.MaxCrowdMinutes + 1]bool{}
		if !give(one) {
			return false
		}
	}
	return true
}

// fewest is fewestOfAll, but by fit if there are many lists of minutes.
func (w windows) fewest() int {
	lists := 1
	for _, one := range w {
		lists = min(lists*int(one.Hi-one.Lo+1), 1000)
	}
	if lists < 1000 {
		return w.fewestOfAll()
	}
	machines := 0
	for !w.fit(machines) {
		machines++
	}
	return machines
}

// replaced are the windows with another one instead of one of them.
func (w windows) replaced(at int, by api.Range) windows {
	other := slices.Clone(w)
	other[at] = by
	return other
}

// bound is that of a crowd.
func (w windows) bound(from, to int64) int {
	n := 0
	for _, one := range w {
		if one.Lo >= from && one.Hi <= to {
			n++
		}
	}
	bound := 0
	for bound*int(to-from+1) < n {
		bound++
	}
	return bound
}

// crowd is the first one with the greatest bound.
func (w windows) crowd(minutes int64) (api.Range, int) {
	first, most := rg(1, 1), w.bound(1, 1)
	for from := int64(1); from <= minutes; from++ {
		for to := from; to <= minutes; to++ {
			if n := w.bound(from, to); n > most {
				first, most = rg(from, to), n
			}
		}
	}
	return first, most
}

// isPlan reports whether a list is a plan.
func isPlan(h api.CrowdHall, machines int, list []int64) bool {
	if len(list) != len(h.People) {
		return false
	}
	for i, p := range h.People {
		can := p.Come.Lo <= p.Until
		if can && (list[i] < p.Come.Hi && list[i] < p.Until || list[i] > p.Until) || !can && list[i] != 0 {
			return false
		}
	}
	return isServed(h, machines, list)
}

// isServed reports whether no minute is that of more people than there are machines.
func isServed(h api.CrowdHall, machines int, list []int64) bool {
	for minute := int64(1); minute <= h.Minutes; minute++ {
		n := 0
		for _, m := range list {
			if m == minute {
				n++
			}
		}
		if n > machines {
			return false
		}
	}
	return true
}

// checkPlan is the error of a list, whose length is that of the people.
func checkPlan(h api.CrowdHall, machines int, list []int64) api.Errno {
	if isPlan(h, machines, list) {
		return api.OK
	}
	if isPlan(h, len(list), list) {
		return api.ErrShut
	}
	return api.ErrRule
}

// served returns who is served when, and how many are shut out: each minute all are looked at, and served in the order of Until and index.
func served(h api.CrowdHall, machines int, truth []int64) ([]int64, int) {
	list := make([]int64, len(h.People))
	for minute := int64(1); minute <= h.Minutes; minute++ {
		left := machines
		for until := minute; until <= h.Minutes; until++ {
			for i, p := range h.People {
				if left > 0 && p.Until == until && list[i] == 0 && truth[i] <= minute {
					list[i] = minute
					left--
				}
			}
		}
	}
	shut := 0
	for i, p := range h.People {
		if truth[i] <= p.Until && list[i] == 0 {
			shut++
		}
	}
	return list, shut
}

// truths calls do with all truths of a hall.
func truths(h api.CrowdHall, do func([]int64)) {
	truth := make([]int64, len(h.People))
	var try func(at int)
	try = func(at int) {
		if at == len(truth) {
			do(truth)
			return
		}
		for truth[at] = h.People[at].Come.Lo; truth[at] <= h.People[at].Come.Hi; truth[at]++ {
			try(at + 1)
		}
	}
	try(0)
}

// comparePlans compares Machines, Plan, Bound and Crowd with the second reading.
func comparePlans(t *testing.T, h api.CrowdHall) {
	t.Helper()
	w, _ := windowsOf(h)
	fewest := w.fewest()
	if r, e := crowd.Machines(h); r != rg(int64(soonest(h).fewest()), int64(fewest)) || e != api.OK {
		t.Fatal("Machines", h, r, e)
	}
	for machines := range len(h.People) + 2 {
		plan, e := crowd.Plan(h, min(machines, api.MaxCrowdMachines))
		if machines < fewest && (e != api.ErrShut || len(plan) != 0) || machines >= fewest && (e != api.OK || !isPlan(h, machines, plan)) {
			t.Fatal("Plan", h, machines, plan, e)
		}
	}
	for from := int64(1); from <= h.Minutes; from++ {
		for to := from; to <= h.Minutes; to++ {
			if n, e := crowd.Bound(h, from, to); n != w.bound(from, to) || e != api.OK {
				t.Fatal("Bound", h, from, to, n, e)
			}
		}
	}
	want, _ := w.crowd(h.Minutes)
	wantE := api.OK
	if len(w) == 0 {
		want, wantE = rg(0, 0), api.ErrRule
	}
	if r, e := crowd.Crowd(h); r != want || e != wantE {
		t.Fatal("Crowd", h, r, e)
	}
}

// compareLate compares Late with the second reading.
func compareLate(t *testing.T, h api.CrowdHall, machines int) {
	t.Helper()
	w, who := windowsOf(h)
	for i := range h.People {
		want, wantE := int64(0), api.ErrRule
		if at := slices.Index(who, i); at >= 0 {
			wantE = api.ErrShut
			for minute := w[at].Lo; minute <= w[at].Hi; minute++ {
				if w.replaced(at, rg(minute, w[at].Hi)).fewest() <= machines {
					want, wantE = minute, api.OK
				}
			}
		}
		if n, e := crowd.Late(h, machines, i); n != want || e != wantE {
			t.Fatal("Late", h, machines, i, n, e)
		}
	}
}

// compareRoom compares Room with the second reading.
func compareRoom(t *testing.T, h api.CrowdHall, machines int, minute int64) {
	t.Helper()
	w, _ := windowsOf(h)
	want, wantE := 0, api.ErrShut
	for more := range machines + 1 {
		if append(slices.Repeat(windows{rg(minute, minute)}, more), w...).fewest() <= machines {
			want, wantE = more, api.OK
		}
	}
	if n, e := crowd.Room(h, machines, minute); n != want || e != wantE {
		t.Fatal("Room", h, machines, minute, n, e)
	}
}

// compareServe compares Serve with the second reading.
func compareServe(t *testing.T, h api.CrowdHall, machines int, truth []int64) {
	t.Helper()
	list, shut := served(h, machines, truth)
	if l, n, e := crowd.Serve(h, machines, truth); !slices.Equal(l, list) || n != shut || e != api.OK {
		t.Fatal("Serve", h, machines, truth, l, n, e)
	}
}

// kinds are all people of a hall with so many minutes.
func kinds(minutes int64) []api.CrowdPerson {
	var all []api.CrowdPerson
	for lo := int64(1); lo <= minutes; lo++ {
		for hi := lo; hi <= minutes; hi++ {
			for until := int64(1); until <= minutes; until++ {
				all = append(all, person(lo, hi, until))
			}
		}
	}
	return all
}

// smallHalls calls do with all halls of these minutes, and up to so many people.
func smallHalls(minutes int64, most int, do func(api.CrowdHall)) {
	all := kinds(minutes)
	var try func(several []api.CrowdPerson)
	try = func(several []api.CrowdPerson) {
		do(api.CrowdHall{Minutes: minutes, People: slices.Clone(several)})
		if len(several) == most {
			return
		}
		for _, p := range all {
			try(append(several, p))
		}
	}
	try(nil)
}

// P9.2 to P9.7: all small halls, and all truths of them, as the chapter defines it.
func TestAllSmallHalls(t *testing.T) {
	halls, rows := 0, 0
	compareAll := func(h api.CrowdHall) {
		halls++
		comparePlans(t, h)
		for machines := range len(h.People) + 2 {
			compareLate(t, h, machines)
			for minute := int64(1); minute <= h.Minutes; minute++ {
				compareRoom(t, h, machines, minute)
			}
			truths(h, func(truth []int64) {
				rows++
				compareServe(t, h, machines, truth)
			})
		}
	}
	smallHalls(1, 4, compareAll)
	smallHalls(2, 4, compareAll)
	smallHalls(3, 3, compareAll)
	smallHalls(4, 2, compareAll)
	if halls != 5+1555+6175+1641 || rows < 150000 {
		t.Error(halls, rows)
	}
}

// P9.2: all lists of minutes for all small halls.
func TestCheckPlanAsDefined(t *testing.T) {
	seen := map[api.Errno]int{}
	smallHalls(3, 2, func(h api.CrowdHall) {
		lists := api.CrowdHall{Minutes: h.Minutes, People: slices.Repeat(people(person(-1, 4, 1)), len(h.People))}
		truths(lists, func(list []int64) {
			for machines := range 4 {
				want := checkPlan(h, machines, list)
				seen[want]++
				if e := crowd.CheckPlan(h, machines, list); e != want {
					t.Fatal(h, machines, list, e)
				}
			}
		})
	})
	if seen[api.OK] < 500 || seen[api.ErrShut] < 500 || seen[api.ErrRule] < 500 {
		t.Error(seen)
	}
}

// sampler makes up halls, the same ones in each run.
type sampler struct{ *rand.Rand }

func samplerOf(seed int64) sampler { return sampler{rand.New(rand.NewSource(seed))} }

// from returns a number from lo to hi.
func (s sampler) from(lo, hi int64) int64 { return lo + s.Int63n(hi-lo+1) }

// person returns one who comes within few or within many minutes, and mostly has some more.
func (s sampler) person(minutes int64) api.CrowdPerson {
	wide := []int64{0, 1, 3, 10, minutes}
	lo := s.from(1, minutes)
	hi := min(minutes, lo+s.from(0, wide[s.Intn(len(wide))]))
	until := min(minutes, hi+s.from(0, wide[s.Intn(len(wide))]))
	if s.Intn(5) == 0 {
		until = s.from(1, minutes)
	}
	return person(lo, hi, until)
}

// hall returns a hall with at most so many people. The minutes are often few beside them.
func (s sampler) hall(most int) api.CrowdHall {
	minutes := []int64{4, 8, 15, 30, api.MaxCrowdMinutes}
	h := api.CrowdHall{Minutes: s.from(1, minutes[s.Intn(len(minutes))])}
	for range s.Intn(most + 1) {
		h.People = append(h.People, s.person(h.Minutes))
	}
	return h
}

// truth returns one of a hall, in which all come at some minute, as soon or as late as they can.
func (s sampler) truth(h api.CrowdHall) []int64 {
	how, list := s.Intn(3), make([]int64, len(h.People))
	for i, p := range h.People {
		list[i] = []int64{s.from(p.Come.Lo, p.Come.Hi), p.Come.Lo, p.Come.Hi}[how]
	}
	return list
}

// list returns minutes that are a plan but for few of them, if the machines are enough.
func (s sampler) list(h api.CrowdHall) []int64 {
	list := make([]int64, len(h.People))
	for i, p := range h.People {
		if p.Come.Lo <= p.Until {
			list[i] = s.from(min(p.Come.Hi, p.Until), p.Until)
		}
		if s.Intn(20*len(list)) == 0 {
			list[i] = s.from(0, h.Minutes+1)
		}
	}
	return list
}

// about returns numbers of machines around a number, and the greatest one.
func about(machines int64) []int {
	var list []int
	for _, n := range []int64{machines - 2, machines - 1, machines, machines + 1, machines + 3, api.MaxCrowdMachines} {
		if n >= 0 && n <= api.MaxCrowdMachines {
			list = append(list, int(n))
		}
	}
	return list
}

// machinesOf are those of Machines.
func machinesOf(t *testing.T, h api.CrowdHall) api.Range {
	t.Helper()
	r, e := crowd.Machines(h)
	if e != api.OK {
		t.Fatal(h, e)
	}
	return r
}

// P9.2 to P9.7: random halls up to the limits, as the chapter defines it.
func TestRandomHalls(t *testing.T) {
	s := samplerOf(90)
	seen := map[api.Errno]int{}
	for range 150 {
		h := s.hall(api.MaxCrowdPeople)
		comparePlans(t, h)
		for _, machines := range about(machinesOf(t, h).Hi) {
			compareLate(t, h, machines)
			compareRoom(t, h, machines, s.from(1, h.Minutes))
			compareServe(t, h, machines, s.truth(h))
			list := s.list(h)
			e := crowd.CheckPlan(h, machines, list)
			seen[e]++
			if e != checkPlan(h, machines, list) {
				t.Fatal(h, machines, list, e)
			}
		}
	}
	if seen[api.OK] < 50 || seen[api.ErrShut] < 50 || seen[api.ErrRule] < 20 {
		t.Error(seen)
	}
}

// The second reading finds the same by all lists of minutes and by giving them one by one.
func TestSecondReadings(t *testing.T) {
	s := samplerOf(91)
	tested := 0
	for range 2000 {
		w, _ := windowsOf(s.hall(6))
		fewest, lists := 0, 1
		for !w.fit(fewest) {
			fewest++
		}
		for _, one := range w {
			lists = min(lists*int(one.Hi-one.Lo+1), 10000)
		}
		if lists == 10000 {
			continue
		}
		tested++
		if w.fewestOfAll() != fewest {
			t.Fatal(w, fewest)
		}
	}
	if tested < 1000 {
		t.Error(tested)
	}
}

// bounds returns the greatest bound of all crowds of a hall, by Bound.
func bounds(t *testing.T, h api.CrowdHall) int {
	t.Helper()
	most := 0
	for from := int64(1); from <= h.Minutes; from++ {
		for to := from; to <= h.Minutes; to++ {
			n, e := crowd.Bound(h, from, to)
			if e != api.OK {
				t.Fatal(h, from, to, e)
			}
			most = max(most, n)
		}
	}
	return most
}

// hasPlan reports whether there is a plan, by Plan.
func hasPlan(t *testing.T, h api.CrowdHall, machines int) bool {
	t.Helper()
	plan, e := crowd.Plan(h, machines)
	if e != api.OK && e != api.ErrShut || e == api.OK && crowd.CheckPlan(h, machines, plan) != api.OK {
		t.Fatal(h, machines, plan, e)
	}
	return e == api.OK
}

// P9.8: for each number of machines either a plan or a crowd with a greater bound.
func TestEither(t *testing.T) {
	s := samplerOf(98)
	plans, crowds := 0, 0
	for range 300 {
		h := s.hall(api.MaxCrowdPeople)
		most := bounds(t, h)
		for machines := range api.MaxCrowdMachines + 1 {
			if hasPlan(t, h, machines) == (most > machines) {
				t.Fatal(h, machines, most)
			}
			if most > machines {
				crowds++
			} else {
				plans++
			}
		}
	}
	if plans < 1000 || crowds < 500 {
		t.Error(plans, crowds)
	}
}

// P9.9: with as many machines as there is a plan for nobody is shut out, in any truth.
func TestNobodyIsShutOut(t *testing.T) {
	s := samplerOf(99)
	for range 500 {
		h := s.hall(api.MaxCrowdPeople)
		r := machinesOf(t, h)
		for range 10 {
			truth := s.truth(h)
			machines := min(int(r.Hi)+s.Intn(3), api.MaxCrowdMachines)
			if l, n, e := crowd.Serve(h, machines, truth); n != 0 || e != api.OK {
				t.Fatal(h, machines, truth, l, n, e)
			}
		}
	}
	smallHalls(3, 2, func(h api.CrowdHall) {
		machines := int(machinesOf(t, h).Hi)
		truths(h, func(truth []int64) {
			if l, n, e := crowd.Serve(h, machines, truth); n != 0 || e != api.OK {
				t.Fatal(h, machines, truth, l, n, e)
			}
		})
	})
}

// P9.9: nobody is served before having come, after Until, or with more people than machines in a minute.
func TestServed(t *testing.T) {
	s := samplerOf(199)
	shutOut := 0
	for range 2000 {
		h := s.hall(api.MaxCrowdPeople)
		truth, machines := s.truth(h), s.Intn(6)
		l, n, e := crowd.Serve(h, machines, truth)
		if e != api.OK || len(l) != len(truth) || !isServed(h, machines, l) {
			t.Fatal(h, machines, truth, l, n, e)
		}
		for i, p := range h.People {
			isTooLate := truth[i] > p.Until
			if l[i] != 0 && (l[i] < truth[i] || l[i] > p.Until || isTooLate) {
				t.Fatal(h, machines, truth, l, n)
			}
			if l[i] == 0 && !isTooLate {
				n--
				shutOut++
			}
		}
		if n != 0 {
			t.Fatal(h, machines, truth, l, n)
		}
	}
	if shutOut < 1000 {
		t.Error(shutOut)
	}
}

// P9.10: no bound is greater than Machines.Hi, and that of Crowd is just this.
func TestProved(t *testing.T) {
	s := samplerOf(910)
	empty := 0
	for range 500 {
		h := s.hall(api.MaxCrowdPeople)
		hi := int(machinesOf(t, h).Hi)
		if n := bounds(t, h); n != hi {
			t.Fatal(h, n, hi)
		}
		r, e := crowd.Crowd(h)
		if hi == 0 {
			empty++
			if e != api.ErrRule {
				t.Fatal(h, r, e)
			}
			continue
		}
		if n, e1 := crowd.Bound(h, r.Lo, r.Hi); n != hi || e != api.OK || e1 != api.OK {
			t.Fatal(h, r, n, hi, e, e1)
		}
	}
	if empty == 0 || empty > 100 {
		t.Error(empty)
	}
}

// P9.10: if all come as late as they can in time, and there is a machine fewer, somebody is shut out.
func TestOneMachineFewer(t *testing.T) {
	s := samplerOf(1910)
	for range 1000 {
		h := s.hall(api.MaxCrowdPeople)
		hi := int(machinesOf(t, h).Hi)
		if hi == 0 {
			continue
		}
		truth := make([]int64, len(h.People))
		for i, p := range h.People {
			truth[i] = p.Come.Hi
			if p.Come.Lo <= p.Until {
				truth[i] = min(p.Come.Hi, p.Until)
			}
		}
		if l, n, e := crowd.Serve(h, hi-1, truth); n == 0 || e != api.OK {
			t.Fatal(h, hi, truth, l, n, e)
		}
	}
}

// needsNoMore reports whether both ends of Machines are at most those of another hall.
func needsNoMore(t *testing.T, h, other api.CrowdHall) bool {
	t.Helper()
	one, two := machinesOf(t, h), machinesOf(t, other)
	return one.Lo <= two.Lo && one.Hi <= two.Hi
}

// changed is a hall with another person instead of one of them.
func changed(h api.CrowdHall, at int, p api.CrowdPerson) api.CrowdHall {
	h.People = slices.Clone(h.People)
	h.People[at] = p
	return h
}

// P9.11: if a Come.Hi is less, or an Until is greater where Come.Hi is not after it, or somebody does not come, no more machines are needed.
func TestSooner(t *testing.T) {
	s := samplerOf(911)
	fewer := 0
	for range 300 {
		h := s.hall(api.MaxCrowdPeople)
		for i, p := range h.People {
			less := changed(h, i, person(p.Come.Lo, s.from(p.Come.Lo, p.Come.Hi), p.Until))
			gone := h
			gone.People = slices.Delete(slices.Clone(h.People), i, i+1)
			others := []api.CrowdHall{less, gone}
			if p.Come.Hi <= p.Until {
				others = append(others, changed(h, i, person(p.Come.Lo, p.Come.Hi, s.from(p.Until, h.Minutes))))
			}
			for _, other := range others {
				if !needsNoMore(t, other, h) {
					t.Fatal(h, other)
				}
				if machinesOf(t, other) != machinesOf(t, h) {
					fewer++
				}
			}
		}
	}
	if fewer < 100 {
		t.Error(fewer)
	}
}

// P9.12: the crowds of two halls with the same Minutes need together no more machines than both alone, and no fewer than each.
func TestJoined(t *testing.T) {
	s := samplerOf(912)
	between := 0
	for range 1000 {
		one, two := s.hall(15), api.CrowdHall{}
		two.Minutes = one.Minutes
		for range s.Intn(16) {
			two.People = append(two.People, s.person(two.Minutes))
		}
		both := api.CrowdHall{Minutes: one.Minutes, People: slices.Concat(one.People, two.People)}
		if !needsNoMore(t, one, both) || !needsNoMore(t, two, both) {
			t.Fatal(one, two)
		}
		r, r1, r2 := machinesOf(t, both), machinesOf(t, one), machinesOf(t, two)
		if r.Lo > r1.Lo+r2.Lo || r.Hi > r1.Hi+r2.Hi {
			t.Fatal(one, two, r, r1, r2)
		}
		if r.Hi > max(r1.Hi, r2.Hi) && r.Hi < r1.Hi+r2.Hi {
			between++
		}
	}
	if between < 50 {
		t.Error(between)
	}
}

// P9.13: with the last minute that Late returns there is a plan, with one more there is none, if it is not after Until.
func TestLater(t *testing.T) {
	s := samplerOf(913)
	bounded, free := 0, 0
	for range 300 {
		h := s.hall(api.MaxCrowdPeople)
		for _, machines := range about(machinesOf(t, h).Hi) {
			for i, p := range h.People {
				last, e := crowd.Late(h, machines, i)
				if e != api.OK {
					continue
				}
				if last < min(p.Come.Hi, p.Until) || last > p.Until || !hasPlan(t, changed(h, i, person(last, last, p.Until)), machines) {
					t.Fatal(h, machines, i, last)
				}
				if last == p.Until {
					free++
					continue
				}
				bounded++
				if hasPlan(t, changed(h, i, person(last+1, last+1, p.Until)), machines) {
					t.Fatal(h, machines, i, last)
				}
			}
		}
	}
	if bounded < 500 || free < 500 {
		t.Error(bounded, free)
	}
}

// P9.14: with so many more people there is a plan, with one more there is none, or there are as many as machines.
func TestRoomed(t *testing.T) {
	s := samplerOf(914)
	bounded, free := 0, 0
	for range 1500 {
		h := s.hall(api.MaxCrowdPeople / 2)
		machines := int(machinesOf(t, h).Hi) + s.Intn(2)
		minute := s.from(1, h.Minutes)
		more, e := crowd.Room(h, machines, minute)
		if e != api.OK || more < 0 || more > machines {
			t.Fatal(h, machines, minute, more, e)
		}
		with := func(more int) api.CrowdHall {
			return api.CrowdHall{Minutes: h.Minutes, People: slices.Concat(h.People, slices.Repeat(people(person(minute, minute, minute)), more))}
		}
		if len(h.People)+more+1 > api.MaxCrowdPeople {
			continue
		}
		if !hasPlan(t, with(more), machines) || more < machines && hasPlan(t, with(more+1), machines) {
			t.Fatal(h, machines, minute, more)
		}
		if more < machines {
			bounded++
		} else {
			free++
		}
	}
	if bounded < 300 || free < 300 {
		t.Error(bounded, free)
	}
}

// P9.14: with a machine more there is room for at least one more.
func TestRoomOfOneMore(t *testing.T) {
	s := samplerOf(1914)
	for range 200 {
		h := s.hall(api.MaxCrowdPeople)
		minute, before := s.from(1, h.Minutes), -1
		for machines := range api.MaxCrowdMachines + 1 {
			more, e := crowd.Room(h, machines, minute)
			if e == api.ErrShut && before < 0 {
				continue
			}
			if e != api.OK || more <= before {
				t.Fatal(h, machines, minute, more, before, e)
			}
			before = more
		}
	}
}

// P9.15: if time runs backwards as many machines are needed at most.
func TestTurned(t *testing.T) {
	s := samplerOf(915)
	for range 1000 {
		h := s.hall(api.MaxCrowdPeople)
		turned := api.CrowdHall{Minutes: h.Minutes}
		for _, p := range h.People {
			if p.Come.Lo <= p.Until {
				last := min(p.Come.Hi, p.Until)
				turned.People = append(turned.People, person(s.from(1, h.Minutes+1-p.Until), h.Minutes+1-p.Until, h.Minutes+1-last))
			}
		}
		if one, two := machinesOf(t, h), machinesOf(t, turned); one.Hi != two.Hi {
			t.Fatal(h, turned, one, two)
		}
	}
}

// someLong returns a number that is mostly a minute.
func (s sampler) someLong(most int64) int64 {
	switch s.Intn(30) {
	case 0:
		return farLongs[s.Intn(len(farLongs))]
	case 1:
		return s.from(-1, api.MaxCrowdMinutes+2)
	}
	return s.from(1, most)
}

// call are arguments of all functions.
type call struct {
	h                api.CrowdHall
	machines, person int
	list             []int64
	from, to         int64
}

func (c call) clone() call {
	c.h.People, c.list = slices.Clone(c.h.People), slices.Clone(c.list)
	return c
}

// someCall returns arguments that are mostly valid.
func (s sampler) someCall() call {
	c := call{h: s.hall(api.MaxCrowdPeople), machines: s.Intn(6), person: s.Intn(6), from: s.someLong(4)}
	c.to = s.someLong(c.h.Minutes)
	if s.Intn(8) == 0 {
		c.h.Minutes = s.someLong(api.MaxCrowdMinutes)
	}
	if s.Intn(8) == 0 && len(c.h.People) > 0 {
		c.h.People[s.Intn(len(c.h.People))] = person(s.someLong(8), s.someLong(8), s.someLong(8))
	}
	if s.Intn(10) == 0 {
		c.h.People = slices.Repeat(c.h.People, 1+s.Intn(4))
	}
	if s.Intn(10) == 0 {
		c.machines = int(s.someLong(40))
	}
	if s.Intn(10) == 0 {
		c.person = int(s.someLong(40))
	}
	for range c.h.People {
		c.list = append(c.list, s.someLong(3))
	}
	if crowd.CheckHall(c.h) == api.OK && s.Intn(4) > 0 {
		c.list = s.truth(c.h)
	}
	if s.Intn(10) == 0 {
		c.list = append(c.list, 1)
	}
	return c
}

// functions are the names of all functions.
var functions = []string{"CheckHall", "CheckPlan", "Plan", "Machines", "Bound", "Crowd", "Serve", "Late", "Room"}

// answers are the results of all functions, in their order, the error last.
func (c call) answers() [][]any {
	plan, e1 := crowd.Plan(c.h, c.machines)
	machines, e2 := crowd.Machines(c.h)
	bound, e3 := crowd.Bound(c.h, c.from, c.to)
	first, e4 := crowd.Crowd(c.h)
	served, shut, e5 := crowd.Serve(c.h, c.machines, c.list)
	late, e6 := crowd.Late(c.h, c.machines, c.person)
	room, e7 := crowd.Room(c.h, c.machines, c.to)
	return [][]any{
		{crowd.CheckHall(c.h)}, {crowd.CheckPlan(c.h, c.machines, c.list)}, {plan, e1}, {machines, e2}, {bound, e3}, {first, e4}, {served, shut, e5}, {late, e6}, {room, e7},
	}
}

func isZero(result any) bool {
	v := reflect.ValueOf(result)
	return v.IsZero() || v.Kind() == reflect.Slice && v.Len() == 0
}

// P1, R2, R4, R9, R10: whatever the arguments are, functions end, return nothing beside an error, change no argument, and return the same again.
func TestAnyArguments(t *testing.T) {
	s := samplerOf(92)
	for range 3000 {
		c := s.someCall()
		kept := c.clone()
		got := c.answers()
		for i, results := range got {
			last := len(results) - 1
			for _, result := range results[:last] {
				if results[last] != api.OK && !isZero(result) {
					t.Fatal(c, functions[i], results)
				}
			}
		}
		if !reflect.DeepEqual(c.clone(), kept) {
			t.Fatal("an argument is changed", c, kept)
		}
		if again := c.answers(); !reflect.DeepEqual(got, again) {
			t.Fatal(c, got, again)
		}
	}
}

// either is an error that a function returns if it is so.
type either struct {
	isSo bool
	e    api.Errno
}

// firstOf returns the first error of those that are so.
func firstOf(errors ...either) api.Errno {
	at := slices.IndexFunc(errors, func(x either) bool { return x.isSo })
	if at < 0 {
		return api.OK
	}
	return errors[at].e
}

// hallError is the error of CheckHall.
func hallError(h api.CrowdHall) api.Errno {
	isNone := func(minute int64) bool { return minute < 1 || minute > h.Minutes }
	isWrong := func(p api.CrowdPerson) bool {
		return isNone(p.Come.Lo) || isNone(p.Come.Hi) || isNone(p.Until) || p.Come.Lo > p.Come.Hi
	}
	return firstOf(
		either{h.Minutes < 1 || h.Minutes > 60, api.ErrRange},
		either{len(h.People) > 30, api.ErrMany},
		either{slices.ContainsFunc(h.People, isWrong), api.ErrArg},
	)
}

// errors are those of all functions, in their order: of all that apply the one that is named first.
func (c call) errors() []api.Errno {
	e := hallError(c.h)
	if e != api.OK {
		return slices.Repeat([]api.Errno{e}, len(functions))
	}
	w, who := windowsOf(c.h)
	many := either{c.machines < 0 || c.machines > 30, api.ErrMany}
	uneven := either{len(c.list) != len(c.h.People), api.ErrEqual}
	shut := either{w.fewest() > c.machines, api.ErrShut}
	isNone := func(minute int64) bool { return minute < 1 || minute > c.h.Minutes }
	var noPlan, noTruth either
	if !uneven.isSo {
		noPlan.e = checkPlan(c.h, c.machines, c.list)
		noPlan.isSo = noPlan.e != api.OK
		noTruth.e = api.ErrRange
		for i, p := range c.h.People {
			noTruth.isSo = noTruth.isSo || c.list[i] < p.Come.Lo || c.list[i] > p.Come.Hi
		}
	}
	return []api.Errno{
		e,
		firstOf(many, uneven, noPlan),
		firstOf(many, shut),
		e,
		firstOf(either{isNone(c.from) || isNone(c.to) || c.from > c.to, api.ErrRange}),
		firstOf(either{len(w) == 0, api.ErrRule}),
		firstOf(many, uneven, noTruth),
		firstOf(many, either{c.person < 0 || c.person >= len(c.h.People), api.ErrArg}, either{!slices.Contains(who, c.person), api.ErrRule}, shut),
		firstOf(many, either{isNone(c.to), api.ErrRange}, shut),
	}
}

// P9.1 to P9.7: of several errors the one that is named first.
func TestFirstErrors(t *testing.T) {
	s := samplerOf(93)
	seen := make([]map[api.Errno]int, len(functions))
	for i := range seen {
		seen[i] = map[api.Errno]int{}
	}
	for range 10000 {
		c := s.someCall()
		answers := c.answers()
		for i, e := range c.errors() {
			seen[i][e]++
			if got := answers[i][len(answers[i])-1]; got != e {
				t.Fatal(functions[i], c, got, e)
			}
		}
	}
	hallErrors := []api.Errno{api.OK, api.ErrRange, api.ErrMany, api.ErrArg}
	for i, more := range [][]api.Errno{
		{}, {api.ErrEqual, api.ErrRule, api.ErrShut}, {api.ErrShut}, {}, {}, {api.ErrRule}, {api.ErrEqual}, {api.ErrRule, api.ErrShut}, {api.ErrShut},
	} {
		for _, e := range slices.Concat(hallErrors, more) {
			if seen[i][e] < 20 {
				t.Error(functions[i], e, seen[i][e])
			}
		}
	}
}

// R3
func TestNilIsEmpty(t *testing.T) {
	for _, several := range [][]api.CrowdPerson{nil, {}} {
		for _, empty := range [][]int64{nil, {}} {
			h := api.CrowdHall{Minutes: 3, People: several}
			if e := crowd.CheckHall(h); e != api.OK {
				t.Error(e)
			}
			if e := crowd.CheckPlan(h, 0, empty); e != api.OK {
				t.Error(e)
			}
			if e := crowd.CheckPlan(hallH(), 2, empty); e != api.ErrEqual {
				t.Error(e)
			}
			if p, e := crowd.Plan(h, 0); len(p) != 0 || e != api.OK {
				t.Error(p, e)
			}
			if r, e := crowd.Machines(h); r != rg(0, 0) || e != api.OK {
				t.Error(r, e)
			}
			if n, e := crowd.Bound(h, 1, 3); n != 0 || e != api.OK {
				t.Error(n, e)
			}
			if r, e := crowd.Crowd(h); r != rg(0, 0) || e != api.ErrRule {
				t.Error(r, e)
			}
			if l, n, e := crowd.Serve(h, 0, empty); len(l) != 0 || n != 0 || e != api.OK {
				t.Error(l, n, e)
			}
			if l, n, e := crowd.Serve(hallH(), 2, empty); len(l) != 0 || n != 0 || e != api.ErrEqual {
				t.Error(l, n, e)
			}
			if n, e := crowd.Room(h, 2, 1); n != 2 || e != api.OK {
				t.Error(n, e)
			}
		}
	}
}

// R4: results share no memory with arguments, and what lies behind the end of an argument is left alone.
func TestSharesNoMemory(t *testing.T) {
	spare := hallH()
	all := len(spare.People)
	spare.People = append(spare.People, slices.Repeat(people(person(7, 7, 7)), 40)...)
	h := api.CrowdHall{Minutes: spare.Minutes, People: spare.People[:all]}
	kept := slices.Clone(spare.People)
	room := append(longs(2, 3, 2, 4, 3), 7, 7, 7)
	truth := room[:5]
	for range 2 {
		plan, e1 := crowd.Plan(h, 2)
		if e1 != api.OK || crowd.CheckPlan(h, 2, plan) != api.OK {
			t.Error(plan, e1)
		}
		list, _, e2 := crowd.Serve(h, 2, truth)
		if e2 != api.OK || !slices.Equal(list, longs(2, 3, 2, 4, 0)) {
			t.Error(list, e2)
		}
		for i := range 5 {
			plan[i], list[i] = -7, -7
		}
		if n, e := crowd.Late(h, 2, 0); n != 3 || e != api.OK {
			t.Error(n, e)
		}
		if n, e := crowd.Room(h, 2, 5); n != 2 || e != api.OK {
			t.Error(n, e)
		}
		if r, e := crowd.Machines(h); r != rg(1, 2) || e != api.OK {
			t.Error(r, e)
		}
		if !slices.Equal(spare.People, kept) || !slices.Equal(room, longs(2, 3, 2, 4, 3, 7, 7, 7)) {
			t.Error(spare, room)
		}
	}
}

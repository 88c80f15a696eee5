package cut_test

import (
	"math/bits"
	"math/rand"
	"reflect"
	"slices"
	"testing"

	"quinella/api"
	"quinella/cut"
)

// rows are all lists of so many numbers from lo to hi.
func rows(many int, lo, hi int64) [][]int64 {
	if many == 0 {
		return [][]int64{nil}
	}
	var all [][]int64
	for _, row := range rows(many-1, lo, hi) {
		for n := lo; n <= hi; n++ {
			all = append(all, append(slices.Clone(row), n))
		}
	}
	return all
}

func sum(numbers []int64) int64 {
	var s int64
	for _, n := range numbers {
		s += n
	}
	return s
}

// isTruth is the chapter's definition of a truth.
func isTruth(h api.CutHall, truth []int64) bool {
	for _, n := range truth {
		if n < 0 || n > h.Most {
			return false
		}
	}
	for _, c := range h.Counters {
		if n := sum(truth[c.From : c.To+1]); n < c.Count.Lo || n > c.Count.Hi {
			return false
		}
	}
	return len(truth) == h.Windows
}

// truths are all truths of a small hall.
func truths(h api.CutHall) [][]int64 {
	all := rows(h.Windows, 0, h.Most)
	return slices.DeleteFunc(all, func(truth []int64) bool { return !isTruth(h, truth) })
}

// without is a hall without the counters of a set, a bit for each.
func without(h api.CutHall, set int) api.CutHall {
	var left []api.CutCounter
	for i, c := range h.Counters {
		if set>>i&1 == 0 {
			left = append(left, c)
		}
	}
	return hall(h.Windows, h.Most, left...)
}

// members are the counters of a set.
func members(set int) []int {
	var list []int
	for i := range 10 {
		if set>>i&1 == 1 {
			list = append(list, i)
		}
	}
	return list
}

// fewest are all lists of the fewest counters that can be wrong, in lexicographic order.
func fewest(h api.CutHall, agrees func(api.CutHall) bool) [][]int {
	var found [][]int
	for set := range 1 << len(h.Counters) {
		if !agrees(without(h, set)) {
			continue
		}
		if len(found) > 0 && bits.OnesCount(uint(set)) < len(found[0]) {
			found = nil
		}
		if len(found) == 0 || bits.OnesCount(uint(set)) == len(found[0]) {
			found = append(found, members(set))
		}
	}
	slices.SortFunc(found, slices.Compare[[]int])
	return found
}

// kindOf is the kind of a counter, of all lists of the fewest.
func kindOf(lists [][]int, k int) int {
	in, out := false, false
	for _, list := range lists {
		if slices.Contains(list, k) {
			in = true
		} else {
			out = true
		}
	}
	if in && out {
		return api.CutMay
	}
	if in {
		return api.CutAlways
	}
	return api.CutNever
}

// ends are the places from which, and to which, a step leads.
func ends(h api.CutHall, s api.CutStep) (from, to int) {
	from, to = s.Index, s.Index+1
	if !s.Window {
		from, to = h.Counters[s.Index].From, h.Counters[s.Index].To+1
	}
	if s.Back {
		from, to = to, from
	}
	return from, to
}

// cost is what a step costs.
func cost(h api.CutHall, s api.CutStep) int64 {
	switch {
	case s.Window && s.Back:
		return 0
	case s.Window:
		return h.Most
	case s.Back:
		return -h.Counters[s.Index].Count.Lo
	}
	return h.Counters[s.Index].Count.Hi
}

// sumOf is the sum of a way; it is false if the steps are no way.
func sumOf(h api.CutHall, from, to int, way []api.CutStep) (int64, bool) {
	var all int64
	for _, s := range way {
		first, next := ends(h, s)
		if first != from {
			return 0, false
		}
		all += cost(h, s)
		from = next
	}
	return all, from == to
}

// isRing is the chapter's definition of a ring.
func isRing(h api.CutHall, way []api.CutStep) bool {
	for place := range h.Windows + 1 {
		if all, ok := sumOf(h, place, place, way); ok && len(way) > 0 && all < 0 {
			return true
		}
	}
	return false
}

// smallHall is a hall whose truths can be looked at one by one.
func smallHall(r *rand.Rand) api.CutHall {
	h := hall(1+r.Intn(4), int64(r.Intn(4)))
	for range r.Intn(6) {
		from := r.Intn(h.Windows)
		to := from + r.Intn(h.Windows-from)
		lo := r.Int63n(h.Most*int64(to-from+1) + 2)
		h.Counters = append(h.Counters, counter(from, to, lo, lo+r.Int63n(3)))
	}
	return h
}

// largeHall is a hall with up to so many counters, which mostly count what was sold.
func largeHall(r *rand.Rand, counters int) api.CutHall {
	h := hall(1+r.Intn(api.MaxCutWindows), []int64{0, 1, 20, 1000, 999999, 1000000}[r.Intn(6)])
	sold := make([]int64, h.Windows)
	for i := range sold {
		sold[i] = r.Int63n(h.Most + 1)
		if r.Intn(4) == 0 {
			sold[i] = h.Most * int64(r.Intn(2))
		}
	}
	mistakes := r.Intn(3)
	for range r.Intn(counters + 1) {
		from := r.Intn(h.Windows)
		to := from + r.Intn(h.Windows-from)
		n := sum(sold[from : to+1])
		if r.Intn(5) < mistakes {
			n = r.Int63n(n + h.Most + 2)
		}
		slack := r.Int63n(h.Most/2+1) * int64(r.Intn(2))
		h.Counters = append(h.Counters, counter(from, to, max(0, n-slack), min(api.MaxCutCount, n+slack)))
	}
	return h
}

// agrees tells whether counters agree; there has to be either a truth or a ring.
func agrees(t *testing.T, h api.CutHall) bool {
	truth, e := cut.Truth(h)
	ring, f := cut.Ring(h)
	switch {
	case e == api.OK && f == api.ErrHave && len(ring) == 0 && isTruth(h, truth):
		return true
	case e == api.ErrNone && f == api.OK && len(truth) == 0 && isRing(h, ring) && len(ring) <= api.MaxCutSteps:
		return false
	}
	t.Fatal(h, truth, e, ring, f)
	return false
}

// spans are the Spans of all windows side by side.
func spans(t *testing.T, h api.CutHall) map[[2]int]api.Range {
	all := map[[2]int]api.Range{}
	for from := range h.Windows {
		for to := from; to < h.Windows; to++ {
			r, e := cut.Span(h, from, to)
			if e != api.OK {
				t.Fatal(h, from, to, e)
			}
			all[[2]int{from, to}] = r
		}
	}
	return all
}

// verdict is what is said of wrong counters.
type verdict struct {
	wrong []int
	lists int
	kinds []int
}

func verdictOf(t *testing.T, h api.CutHall) verdict {
	var v verdict
	var e [2]api.Errno
	v.wrong, e[0] = cut.Wrong(h)
	v.lists, e[1] = cut.Lists(h)
	if e != [2]api.Errno{} {
		t.Fatal(h, e)
	}
	for k := range h.Counters {
		n, e := cut.Kind(h, k)
		if e != api.OK {
			t.Fatal(h, k, e)
		}
		v.kinds = append(v.kinds, n)
	}
	return v
}

// P5.2, P5.3, P5.5, P5.8, P5.9
func TestSmallHalls(t *testing.T) {
	rng := rand.New(rand.NewSource(61))
	yes, no := 0, 0
	for range 1500 {
		h := smallHall(rng)
		all := truths(h)
		if agrees(t, h) != (len(all) > 0) {
			t.Fatal(h, all)
		}
		if len(all) == 0 {
			no++
			continue
		}
		yes++
		for windows, r := range spans(t, h) {
			had := map[int64]bool{}
			for _, truth := range all {
				had[sum(truth[windows[0]:windows[1]+1])] = true
			}
			if int64(len(had)) != r.Hi-r.Lo+1 {
				t.Fatal(h, windows, r, had)
			}
			for n := range had {
				if n < r.Lo || n > r.Hi {
					t.Fatal(h, windows, r, n)
				}
			}
		}
	}
	if yes < 300 || no < 300 {
		t.Error(yes, no)
	}
}

// P5.2
func TestTruthsAsDefined(t *testing.T) {
	rng := rand.New(rand.NewSource(62))
	for range 100 {
		h := smallHall(rng)
		for _, row := range rows(h.Windows, -1, h.Most+1) {
			want := api.ErrSum
			if slices.Min(row) < 0 || slices.Max(row) > h.Most {
				want = api.ErrRange
			} else if isTruth(h, row) {
				want = api.OK
			}
			if e := cut.CheckTruth(h, row); e != want {
				t.Fatal(h, row, e)
			}
		}
	}
}

// P5.7, P5.13
func TestFewestOfSmallHalls(t *testing.T) {
	rng := rand.New(rand.NewSource(63))
	seen := map[int]int{}
	for range 400 {
		h := smallHall(rng)
		lists := fewest(h, func(h api.CutHall) bool { return len(truths(h)) > 0 })
		want := verdict{wrong: lists[0], lists: len(lists)}
		for k := range h.Counters {
			want.kinds = append(want.kinds, kindOf(lists, k))
		}
		if got := verdictOf(t, h); !slices.Equal(got.wrong, want.wrong) || got.lists != want.lists || !slices.Equal(got.kinds, want.kinds) {
			t.Fatal(h, got, want)
		}
		seen[len(lists[0])]++
	}
	if seen[0] == 0 || seen[1] == 0 || seen[2] == 0 || seen[3] == 0 {
		t.Error(seen)
	}
}

// P5.7, P5.8, P5.13
func TestFewestOfLargeHalls(t *testing.T) {
	rng := rand.New(rand.NewSource(64))
	seen := map[int]int{}
	for range 150 {
		h := largeHall(rng, 8)
		lists := fewest(h, func(h api.CutHall) bool { return agrees(t, h) })
		got := verdictOf(t, h)
		if !slices.Equal(got.wrong, lists[0]) || got.lists != len(lists) {
			t.Fatal(h, got, lists)
		}
		for k, kind := range got.kinds {
			if kind != kindOf(lists, k) {
				t.Fatal(h, k, kind, lists)
			}
		}
		seen[len(lists[0])]++
	}
	if seen[0] == 0 || seen[1] == 0 || seen[2] == 0 || seen[3] == 0 {
		t.Error(seen)
	}
}

// ringWithout finds a ring of the counters that are not in a set; and which ones are in it.
func ringWithout(t *testing.T, h api.CutHall, set int) (ring []api.CutStep, used int) {
	ring, e := cut.Ring(without(h, set))
	if e != api.OK {
		return nil, 0
	}
	names := members((1<<len(h.Counters) - 1) &^ set)
	for i, s := range ring {
		if !s.Window {
			ring[i].Index = names[s.Index]
			used |= 1 << names[s.Index]
		}
	}
	if !isRing(h, ring) {
		t.Fatal(h, ring)
	}
	return ring, used
}

// apart finds rings, each of them of counters that are in none of those before it.
func apart(t *testing.T, h api.CutHall) [][]api.CutStep {
	var rings [][]api.CutStep
	taken := 0
	for {
		ring, used := ringWithout(t, h, taken)
		if ring == nil {
			return rings
		}
		rings = append(rings, ring)
		taken |= used
	}
}

// P5.6, P5.13
func TestRingsThatAreApart(t *testing.T) {
	rng := rand.New(rand.NewSource(65))
	most := 0
	for range 500 {
		h := largeHall(rng, 10)
		rings := apart(t, h)
		n, e := cut.CheckRings(h, rings)
		wrong, _ := cut.Wrong(h)
		if n != len(rings) || e != api.OK || n > len(wrong) {
			t.Fatal(h, rings, n, e, wrong)
		}
		most = max(most, n)
		for i := range rings {
			if n, e := cut.CheckRings(h, append(slices.Clone(rings), rings[i])); n != 0 || e != api.ErrSum {
				t.Fatal(h, rings, i, n, e)
			}
		}
	}
	if most < 3 {
		t.Error(most)
	}
}

// P5.3, P5.4, P5.9, P5.10
func TestSpansOfLargeHalls(t *testing.T) {
	rng := rand.New(rand.NewSource(66))
	seen := 0
	for range 400 {
		h := largeHall(rng, 9)
		if !agrees(t, h) {
			continue
		}
		seen++
		truth, _ := cut.Truth(h)
		for windows, r := range spans(t, h) {
			from, to := windows[0], windows[1]
			if n := sum(truth[from : to+1]); n < r.Lo || n > r.Hi {
				t.Fatal(h, windows, r, truth)
			}
			there, e1 := cut.Way(h, from, to+1)
			back, e2 := cut.Way(h, to+1, from)
			hi, ok1 := sumOf(h, from, to+1, there)
			lo, ok2 := sumOf(h, to+1, from, back)
			if e1 != api.OK || e2 != api.OK || !ok1 || !ok2 || hi != r.Hi || lo != -r.Lo || len(there) > api.MaxCutSteps || len(back) > api.MaxCutSteps {
				t.Fatal(h, windows, r, there, back, e1, e2)
			}
			for _, n := range []int64{r.Lo, (r.Lo + r.Hi) / 2, r.Hi} {
				sure := hall(h.Windows, h.Most, append(slices.Clone(h.Counters), counter(from, to, n, n))...)
				if !agrees(t, sure) {
					t.Fatal(h, windows, r, n)
				}
			}
		}
		for place := range h.Windows + 1 {
			if way, e := cut.Way(h, place, place); e != api.OK || len(way) > api.MaxCutSteps {
				t.Fatal(h, place, way, e)
			} else if n, ok := sumOf(h, place, place, way); n != 0 || !ok {
				t.Fatal(h, place, way)
			}
		}
	}
	if seen < 100 {
		t.Error(seen)
	}
}

// randomSteps are steps that mostly follow one another from a place on.
func randomSteps(r *rand.Rand, h api.CutHall, from int) []api.CutStep {
	var list []api.CutStep
	for tries := r.Intn(60); tries > 0; tries-- {
		s := api.CutStep{Window: r.Intn(2) == 0, Back: r.Intn(2) == 0, Index: r.Intn(h.Windows)}
		if !s.Window {
			if len(h.Counters) == 0 {
				continue
			}
			s.Index = r.Intn(len(h.Counters))
		}
		if first, next := ends(h, s); first == from || r.Intn(100) == 0 {
			list = append(list, s)
			from = next
		}
	}
	return list
}

// P5.4, P5.10
func TestWaysAsDefined(t *testing.T) {
	rng := rand.New(rand.NewSource(67))
	good, bad := 0, 0
	for range 4000 {
		h := largeHall(rng, 10)
		from, to := rng.Intn(h.Windows+1), rng.Intn(h.Windows+1)
		way := randomSteps(rng, h, from)
		if len(way) > 0 && rng.Intn(4) > 0 {
			_, to = ends(h, way[len(way)-1])
		}
		all, ok := sumOf(h, from, to, way)
		n, e := cut.CheckWay(h, from, to, way)
		if !ok {
			bad++
			if n != 0 || e != api.ErrRule {
				t.Fatal(h, from, to, way, n, e)
			}
			continue
		}
		good++
		if n != all || e != api.OK {
			t.Fatal(h, from, to, way, n, e)
		}
		if from < to {
			if r, e := cut.Span(h, from, to-1); e == api.OK && n < r.Hi {
				t.Fatal(h, from, to, way, n, r)
			}
		}
		if from > to {
			if r, e := cut.Span(h, to, from-1); e == api.OK && -n > r.Lo {
				t.Fatal(h, from, to, way, n, r)
			}
		}
	}
	if good < 500 || bad < 500 {
		t.Error(good, bad)
	}
}

// P5.5, P5.6, P5.8
func TestRingsAsDefined(t *testing.T) {
	rng := rand.New(rand.NewSource(68))
	seen := map[api.Errno]int{}
	for range 4000 {
		h := largeHall(rng, 10)
		var rings [][]api.CutStep
		for range rng.Intn(4) {
			ring, _ := ringWithout(t, h, rng.Intn(1<<len(h.Counters)))
			if ring != nil {
				turn := rng.Intn(len(ring)) // a ring may begin at any place of it
				rings = append(rings, slices.Concat(ring[turn:], ring[:turn]))
			}
		}
		if way := randomSteps(rng, h, rng.Intn(h.Windows+1)); isRing(h, way) || rng.Intn(20) == 0 {
			rings = append(rings, way)
		}
		want, counters := api.OK, 0
		for _, ring := range rings {
			used := 0
			for _, s := range ring {
				if !s.Window {
					used |= 1 << s.Index
				}
			}
			if counters&used != 0 && want == api.OK {
				want = api.ErrSum
			}
			counters |= used
			if !isRing(h, ring) {
				want = api.ErrRule
			} else if _, e := cut.Truth(h); e != api.ErrNone {
				t.Fatal(h, ring, e)
			}
		}
		many := len(rings)
		if want != api.OK {
			many = 0
		}
		if n, e := cut.CheckRings(h, rings); n != many || e != want {
			t.Fatal(h, rings, n, e, want)
		}
		seen[want]++
	}
	if seen[api.OK] < 100 || seen[api.ErrRule] < 100 || seen[api.ErrSum] < 100 {
		t.Error(seen)
	}
}

// contains reports whether a range contains another one.
func contains(a, b api.Range) bool { return a.Lo <= b.Lo && a.Hi >= b.Hi }

// narrowed is a hall with one counter more, or with narrower Counts.
func narrowed(r *rand.Rand, h api.CutHall) api.CutHall {
	counters := slices.Clone(h.Counters)
	for i := range counters {
		count := &counters[i].Count
		if width := count.Hi - count.Lo; width > 0 && r.Intn(2) == 0 {
			count.Lo += r.Int63n(width + 1)
			count.Hi -= r.Int63n(count.Hi - count.Lo + 1)
		}
	}
	if r.Intn(2) == 0 {
		from := r.Intn(h.Windows)
		to := from + r.Intn(h.Windows-from)
		lo := r.Int63n(h.Most*int64(to-from+1) + 1)
		counters = append(counters, counter(from, to, lo, lo+r.Int63n(h.Most+1)))
	}
	return hall(h.Windows, h.Most, counters...)
}

// P5.11
func TestNarrower(t *testing.T) {
	rng := rand.New(rand.NewSource(69))
	seen := 0
	for range 1500 {
		h := largeHall(rng, 9)
		less := narrowed(rng, h)
		if agrees(t, h) {
			truth, _ := cut.Truth(h)
			if isTruth(less, truth) && (cut.CheckTruth(less, truth) != api.OK || !agrees(t, less)) {
				t.Fatal(h, less, truth)
			}
		}
		if !agrees(t, less) {
			continue
		}
		truth, _ := cut.Truth(less)
		if !agrees(t, h) || cut.CheckTruth(h, truth) != api.OK {
			t.Fatal(h, less, truth)
		}
		seen++
		narrow := spans(t, less)
		for windows, r := range spans(t, h) {
			if !contains(r, narrow[windows]) {
				t.Fatal(h, less, windows, r, narrow[windows])
			}
		}
	}
	if seen < 300 {
		t.Error(seen)
	}
}

// P5.12
func TestJoined(t *testing.T) {
	rng := rand.New(rand.NewSource(70))
	seen := 0
	for range 500 {
		h := largeHall(rng, 10)
		if !agrees(t, h) {
			continue
		}
		seen++
		all := spans(t, h)
		for windows, r := range all {
			for between := windows[0]; between < windows[1]; between++ {
				a, b := all[[2]int{windows[0], between}], all[[2]int{between + 1, windows[1]}]
				if !contains(span(a.Lo+b.Lo, a.Hi+b.Hi), r) {
					t.Fatal(h, windows, between, r, a, b)
				}
			}
		}
	}
	if seen < 100 {
		t.Error(seen)
	}
}

// P5.12: a window more can come wherever no counter counts windows on both sides of it.
func TestOneWindowMore(t *testing.T) {
	rng := rand.New(rand.NewSource(71))
	seen := map[bool]int{}
	for range 500 {
		h := largeHall(rng, 6)
		if h.Windows == api.MaxCutWindows || !agrees(t, h) {
			continue
		}
		all := spans(t, h)
		for place := range h.Windows + 1 {
			more := hall(h.Windows+1, h.Most, slices.Clone(h.Counters)...)
			split := false
			for i, c := range h.Counters {
				split = split || c.From < place && c.To >= place
				if c.From >= place {
					more.Counters[i].From++
					more.Counters[i].To++
				}
			}
			if split {
				continue
			}
			seen[place > 0 && place < h.Windows]++
			wide := spans(t, more)
			for windows, r := range all {
				if windows[0] < place && windows[1] >= place {
					continue // they are not side by side any more
				}
				if windows[0] >= place {
					windows[0]++
					windows[1]++
				}
				if wide[windows] != r {
					t.Fatal(h, place, windows, r, wide[windows])
				}
			}
		}
	}
	if seen[true] < 100 || seen[false] < 100 {
		t.Error(seen)
	}
}

// turned is a hall whose windows come in the opposite order.
func turned(h api.CutHall) api.CutHall {
	back := hall(h.Windows, h.Most)
	for _, c := range h.Counters {
		back.Counters = append(back.Counters, counter(h.Windows-1-c.To, h.Windows-1-c.From, c.Count.Lo, c.Count.Hi))
	}
	return back
}

// P5.14
func TestTurned(t *testing.T) {
	rng := rand.New(rand.NewSource(72))
	for range 300 {
		h := largeHall(rng, 8)
		back := turned(h)
		if a, b := verdictOf(t, h), verdictOf(t, back); !reflect.DeepEqual(a, b) {
			t.Fatal(h, a, b)
		}
		if !agrees(t, h) {
			continue
		}
		other := spans(t, back)
		for windows, r := range spans(t, h) {
			if other[[2]int{h.Windows - 1 - windows[1], h.Windows - 1 - windows[0]}] != r {
				t.Fatal(h, windows, r)
			}
		}
	}
}

// P5.15
func TestNamed(t *testing.T) {
	rng := rand.New(rand.NewSource(73))
	for range 300 {
		h := largeHall(rng, 8)
		order := rng.Perm(len(h.Counters))
		other := hall(h.Windows, h.Most)
		for _, k := range order {
			other.Counters = append(other.Counters, h.Counters[k])
		}
		a, b := verdictOf(t, h), verdictOf(t, other)
		if len(a.wrong) != len(b.wrong) || a.lists != b.lists {
			t.Fatal(h, order, a, b)
		}
		for i, k := range order {
			if b.kinds[i] != a.kinds[k] {
				t.Fatal(h, order, a, b)
			}
		}
		if agrees(t, h) && !reflect.DeepEqual(spans(t, h), spans(t, other)) {
			t.Fatal(h, order)
		}
	}
}

// someInt returns any number, often one at an end.
func someInt(r *rand.Rand) int64 {
	near := append(slices.Clone(farthest), -1, 0, 1, 2, 9, 10, 11, 1000000, 1000001, 10000000, 10000001, 1<<32, 1<<62)
	if r.Intn(4) == 0 {
		return int64(r.Uint64())
	}
	return near[r.Intn(len(near))]
}

func someHall(r *rand.Rand) api.CutHall {
	h := largeHall(r, 6)
	if r.Intn(2) == 0 {
		return h
	}
	if r.Intn(3) == 0 {
		h.Windows = int(someInt(r))
	}
	if r.Intn(3) == 0 {
		h.Most = someInt(r)
	}
	for i := range h.Counters {
		if r.Intn(4) == 0 {
			h.Counters[i] = counter(int(someInt(r)), int(someInt(r)), someInt(r), someInt(r))
		}
	}
	return h
}

func someSteps(r *rand.Rand) []api.CutStep {
	var list []api.CutStep
	for range r.Intn(4) {
		list = append(list, api.CutStep{Window: r.Intn(2) == 0, Index: int(someInt(r)), Back: r.Intn(2) == 0})
	}
	return list
}

// answers are the results of all functions: of each the result, if it has one, and its error.
func answers(h api.CutHall, numbers []int64, from, to int, rings [][]api.CutStep) [][]any {
	of := func(a, b any) []any { return []any{a, b} }
	list := [][]any{{cut.CheckHall(h)}, {cut.CheckTruth(h, numbers)}}
	list = append(list, of(cut.Truth(h)), of(cut.Span(h, from, to)), of(cut.CheckWay(h, from, to, rings[0])), of(cut.Way(h, from, to)))
	list = append(list, of(cut.Ring(h)), of(cut.CheckRings(h, rings)))
	return append(list, of(cut.Wrong(h)), of(cut.Lists(h)), of(cut.Kind(h, from)))
}

// isZero reports whether a result is what comes with an error.
func isZero(result any) bool {
	v := reflect.ValueOf(result)
	return v.IsZero() || v.Kind() == reflect.Slice && v.Len() == 0
}

// P1, R2, R4, R9, R10
func TestAnyArguments(t *testing.T) {
	rng := rand.New(rand.NewSource(74))
	for range 10000 {
		h, from, to := someHall(rng), int(someInt(rng)), int(someInt(rng))
		rings := ways(someSteps(rng), someSteps(rng))
		if cut.CheckHall(h) == api.OK && rng.Intn(2) == 0 {
			from, to = rng.Intn(h.Windows+1), rng.Intn(h.Windows+1)
			rings = ways(randomSteps(rng, h, from), randomSteps(rng, h, to))
		}
		var numbers []int64
		for range rng.Intn(12) {
			numbers = append(numbers, someInt(rng))
		}
		counters, before, kept := slices.Clone(h.Counters), slices.Clone(numbers), ways(slices.Clone(rings[0]), slices.Clone(rings[1]))
		got := answers(h, numbers, from, to, rings)
		for _, results := range got {
			e := results[len(results)-1].(api.Errno)
			if e != api.OK && len(results) > 1 && !isZero(results[0]) {
				t.Fatal(h, numbers, from, to, rings, results)
			}
		}
		if !slices.Equal(h.Counters, counters) || !slices.Equal(numbers, before) || !reflect.DeepEqual(rings, kept) {
			t.Fatal("an argument is changed", h, numbers, rings)
		}
		if again := answers(h, numbers, from, to, rings); !reflect.DeepEqual(got, again) {
			t.Fatal(h, got, again)
		}
	}
}

// R3
func TestNilIsEmpty(t *testing.T) {
	for _, counters := range [][]api.CutCounter{nil, {}} {
		h := hall(2, 5, counters...)
		h.Counters = counters
		for _, way := range [][]api.CutStep{nil, {}} {
			if n, e := cut.CheckWay(h, 1, 1, way); n != 0 || e != api.OK {
				t.Error(n, e)
			}
			if n, e := cut.CheckRings(h, ways(way)); n != 0 || e != api.ErrRule {
				t.Error(n, e)
			}
		}
		for _, rings := range [][][]api.CutStep{nil, {}} {
			if n, e := cut.CheckRings(h, rings); n != 0 || e != api.OK {
				t.Error(n, e)
			}
		}
		for _, truth := range [][]int64{nil, {}} {
			if e := cut.CheckTruth(h, truth); e != api.ErrEqual {
				t.Error(e)
			}
		}
		if !agrees(t, h) {
			t.Error(h)
		}
		if v := verdictOf(t, h); len(v.wrong) != 0 || v.lists != 1 {
			t.Error(v)
		}
	}
}

// keeps reports whether calls return the same again after the list that a call has returned is overwritten.
func keeps[T any](ask func() ([]T, api.Errno)) bool {
	first, _ := ask()
	kept := slices.Clone(first)
	clear(first)
	second, _ := ask()
	return len(kept) > 0 && reflect.DeepEqual(second, kept)
}

// R4
func TestResultsShareNoMemory(t *testing.T) {
	if !keeps(func() ([]int64, api.Errno) { return cut.Truth(hallH()) }) {
		t.Error("Truth")
	}
	if !keeps(func() ([]api.CutStep, api.Errno) { return cut.Way(hallH(), 2, 1) }) {
		t.Error("Way")
	}
	if !keeps(func() ([]api.CutStep, api.Errno) { return cut.Ring(hallJ()) }) {
		t.Error("Ring")
	}
	two := hall(1, 9, counter(0, 0, 3, 3), counter(0, 0, 10, 10), counter(0, 0, 11, 11))
	if !keeps(func() ([]int, api.Errno) { return cut.Wrong(two) }) {
		t.Error("Wrong")
	}
}

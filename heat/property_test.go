package heat_test

import (
	"cmp"
	"math/rand"
	"reflect"
	"slices"
	"testing"

	"quinella/api"
	"quinella/heat"
)

// finishesOf are all finishes, by the groups of runners that come in together one behind another, in lexicographic order.
func finishesOf(runners int) [][]int {
	var all [][]int
	finish := make([]int, runners)
	var run func(in int)
	run = func(in int) {
		if in == 1<<runners-1 {
			all = append(all, slices.Clone(finish))
			return
		}
		place := 1
		for runner := range runners {
			place += in >> runner & 1
		}
		for group := 1; group < 1<<runners; group++ {
			if group&in != 0 {
				continue
			}
			for runner := range runners {
				if group>>runner&1 == 1 {
					finish[runner] = place
				}
			}
			run(in | group)
		}
	}
	run(0)
	slices.SortFunc(all, slices.Compare[[]int])
	return all
}

// saidOf reports whether a finish agrees with a word.
func saidOf(finish []int, w api.HeatWord) bool {
	one, two := finish[w.One], finish[w.Two]
	return one < two && w.Kind != api.HeatWith || one == two && w.Kind != api.HeatBefore
}

// agreedOf are the finishes that agree with all words.
func agreedOf(finishes [][]int, words []api.HeatWord) [][]int {
	var agreed [][]int
	for _, finish := range finishes {
		denied := func(w api.HeatWord) bool { return !saidOf(finish, w) }
		if !slices.ContainsFunc(words, denied) {
			agreed = append(agreed, finish)
		}
	}
	return agreed
}

// kindOf tells of how many finishes something is so.
func kindOf(finishes [][]int, isSo func([]int) bool) int {
	is, isNot := slices.ContainsFunc(finishes, isSo), false
	for _, finish := range finishes {
		isNot = isNot || !isSo(finish)
	}
	switch {
	case is && isNot:
		return api.HeatMay
	case is:
		return api.HeatAlways
	}
	return api.HeatNever
}

// wordsOf are all words that a race can have.
func wordsOf(runners int) []api.HeatWord {
	var all []api.HeatWord
	for one := range runners {
		for two := range runners {
			if one != two {
				all = append(all, before(one, two), with(one, two), noLess(one, two))
			}
		}
	}
	return all
}

// isCircleOf is the chapter's definition: links are chosen in all ways.
func isCircleOf(words []api.HeatWord, circle []int) bool {
	isBefore := func(word int) bool { return words[word].Kind == api.HeatBefore }
	if !slices.ContainsFunc(circle, isBefore) {
		return false
	}
	var choose func(start, at int, left []int) bool
	choose = func(start, at int, left []int) bool {
		if len(left) == 0 {
			return at == start
		}
		w := words[left[0]]
		return w.One == at && choose(start, w.Two, left[1:]) || w.Kind == api.HeatWith && w.Two == at && choose(start, w.One, left[1:])
	}
	first := words[circle[0]]
	return choose(first.One, first.One, circle) || choose(first.Two, first.Two, circle)
}

// shortestOf is how many words the shortest circle has, or 0 if there is none: the lengths of least ways between all runners.
func shortestOf(h api.HeatRace) int {
	const far = 99
	var way [5][5]int
	for from := range way {
		for to := range way {
			if from != to {
				way[from][to] = far
			}
		}
	}
	for _, w := range h.Words {
		way[w.One][w.Two] = 1
		if w.Kind == api.HeatWith {
			way[w.Two][w.One] = 1
		}
	}
	for over := range way {
		for from := range way {
			for to := range way {
				way[from][to] = min(way[from][to], way[from][over]+way[over][to])
			}
		}
	}
	shortest := far
	for _, w := range h.Words {
		if w.Kind == api.HeatBefore {
			shortest = min(shortest, 1+way[w.Two][w.One])
		}
	}
	if shortest == far {
		return 0
	}
	return shortest
}

// members are the indexes of a set, a bit for each.
func members(set int) []int {
	var list []int
	for i := range api.MaxHeatWords {
		if set>>i&1 == 1 {
			list = append(list, i)
		}
	}
	return list
}

// these are some words of a race.
func these(h api.HeatRace, list []int) []api.HeatWord {
	var words []api.HeatWord
	for _, word := range list {
		words = append(words, h.Words[word])
	}
	return words
}

// isBaseOf is the chapter's definition: each word of the race follows from those of the list.
func isBaseOf(finishes [][]int, h api.HeatRace, list []int) bool {
	for _, finish := range agreedOf(finishes, these(h, list)) {
		for _, w := range h.Words {
			if !saidOf(finish, w) {
				return false
			}
		}
	}
	return true
}

// leastBaseOf is the first least base, of all lists.
func leastBaseOf(finishes [][]int, h api.HeatRace) []int {
	var best []int
	found := false
	for set := range 1 << len(h.Words) {
		list := members(set)
		if found && (len(list) > len(best) || len(list) == len(best) && slices.Compare(list, best) > 0) {
			continue
		}
		if isBaseOf(finishes, h, list) {
			best, found = list, true
		}
	}
	return best
}

// checkFinishes compares Finish, Count, Places and Placed with the finishes that agree.
func checkFinishes(t *testing.T, h api.HeatRace, agreed [][]int) {
	t.Helper()
	want, first := api.ErrHeat, []int(nil)
	if len(agreed) > 0 {
		want, first = api.OK, agreed[0]
	}
	if n, e := heat.Count(h); n != len(agreed) || e != api.OK {
		t.Fatal(h, n, e, agreed)
	}
	if f, e := heat.Finish(h); !slices.Equal(f, first) || e != want {
		t.Fatal(h, f, e, agreed)
	}
	for runner := range h.Runners {
		lo, hi := 0, 0
		for place := h.Runners; place > 0; place-- {
			has := func(finish []int) bool { return finish[runner] == place }
			if slices.ContainsFunc(agreed, has) {
				lo, hi = place, max(hi, place)
			}
			isIn := func(finish []int) bool { return finish[runner] <= place }
			if k, e := heat.Placed(h, runner, place); k != kindOf(agreed, isIn) || e != want {
				t.Fatal(h, runner, place, k, e, agreed)
			}
		}
		if r, e := heat.Places(h, runner); r != (api.Range{Lo: int64(lo), Hi: int64(hi)}) || e != want {
			t.Fatal(h, runner, r, e, agreed)
		}
	}
}

// checkWord compares Kind with the finishes that agree.
func checkWord(t *testing.T, h api.HeatRace, w api.HeatWord, agreed [][]int) {
	t.Helper()
	want := api.OK
	if len(agreed) == 0 {
		want = api.ErrHeat
	}
	says := func(finish []int) bool { return saidOf(finish, w) }
	if k, e := heat.Kind(h, w); k != kindOf(agreed, says) || e != want {
		t.Fatal(h, w, k, e, agreed)
	}
}

// checkCircle checks Circle. (Also P7.7: either.)
func checkCircle(t *testing.T, h api.HeatRace, agreed [][]int) {
	t.Helper()
	c, e := heat.Circle(h)
	n := shortestOf(h)
	if (n == 0) != (len(agreed) > 0) {
		t.Fatal(h, n, agreed)
	}
	if n == 0 {
		if len(c) != 0 || e != api.ErrHave {
			t.Fatal(h, c, e, agreed)
		}
		return
	}
	if len(c) != n || e != api.OK || !isCircleOf(h.Words, c) {
		t.Fatal(h, c, e, n)
	}
}

// checkBases compares CheckBase of all lists, and Base, with the definition.
func checkBases(t *testing.T, finishes [][]int, h api.HeatRace, agreed [][]int) {
	t.Helper()
	for set := range 1 << len(h.Words) {
		want := api.ErrNone
		if len(agreed) == 0 {
			want = api.ErrHeat
		} else if isBaseOf(finishes, h, members(set)) {
			want = api.OK
		}
		if e := heat.CheckBase(h, members(set)); e != want {
			t.Fatal(h, members(set), e, want)
		}
	}
	checkLeastBase(t, finishes, h, agreed)
}

func checkLeastBase(t *testing.T, finishes [][]int, h api.HeatRace, agreed [][]int) {
	t.Helper()
	b, e := heat.Base(h)
	if len(agreed) == 0 {
		if len(b) != 0 || e != api.ErrHeat {
			t.Fatal(h, b, e)
		}
		return
	}
	if want := leastBaseOf(finishes, h); !slices.Equal(b, want) || e != api.OK {
		t.Fatal(h, b, e, want)
	}
}

// smallRaces are all races of two runners with up to four words, and of three runners with up to three.
func smallRaces(yield func(api.HeatRace) bool) {
	_ = withMore(race(2), 4, yield) && withMore(race(3), 3, yield)
}

// withMore yields a race, and all those that have up to so many words more; it returns whether others are wanted.
func withMore(h api.HeatRace, words int, yield func(api.HeatRace) bool) bool {
	if !yield(h) {
		return false
	}
	if words == 0 {
		return true
	}
	for _, w := range wordsOf(h.Runners) {
		if !withMore(more(h, w), words-1, yield) {
			return false
		}
	}
	return true
}

// P7.2 to P7.7
func TestSmallRacesAsDefined(t *testing.T) {
	finishes := map[int][][]int{2: finishesOf(2), 3: finishesOf(3)}
	words := map[int][]api.HeatWord{2: wordsOf(2), 3: wordsOf(3)}
	races, agree := 0, 0
	for h := range smallRaces {
		all := finishes[h.Runners]
		agreed := agreedOf(all, h.Words)
		checkFinishes(t, h, agreed)
		for _, w := range words[h.Runners] {
			checkWord(t, h, w, agreed)
		}
		checkCircle(t, h, agreed)
		checkBases(t, all, h, agreed)
		races++
		if len(agreed) > 0 {
			agree++
		}
	}
	if races != 1+6+36+216+1296+1+18+324+5832 || agree < races/3 || agree > races*9/10 {
		t.Error(races, agree)
	}
}

// randomWord is any word.
func randomWord(r *rand.Rand, runners int) api.HeatWord {
	one := r.Intn(runners)
	two := (one + 1 + r.Intn(runners-1)) % runners
	return api.HeatWord{One: one, Two: two, Kind: r.Intn(3)}
}

// trueWord is a word with which a finish agrees.
func trueWord(r *rand.Rand, finish []int) api.HeatWord {
	for {
		if w := randomWord(r, len(finish)); saidOf(finish, w) {
			return w
		}
	}
}

// sampler has all finishes.
type sampler struct {
	*rand.Rand
	finishes map[int][][]int
}

func samplerOf(seed int64) sampler {
	s := sampler{rand.New(rand.NewSource(seed)), map[int][][]int{}}
	for runners := 2; runners <= 5; runners++ {
		s.finishes[runners] = finishesOf(runners)
	}
	return s
}

// race is a race of at most so many words, most of which a finish agrees with, and the finishes that agree.
func (s sampler) race(least, words int) (api.HeatRace, [][]int) {
	h := race(least + s.Intn(6-least))
	all := s.finishes[h.Runners]
	finish := all[s.Intn(len(all))]
	odd := s.Intn(4)
	for range s.Intn(words + 1) {
		w := trueWord(s.Rand, finish)
		if odd == 0 && s.Intn(3) == 0 {
			w = randomWord(s.Rand, h.Runners)
		}
		h.Words = append(h.Words, w)
	}
	return h, agreedOf(all, h.Words)
}

// P7.2 to P7.7
func TestRacesAsDefined(t *testing.T) {
	s := samplerOf(91)
	clash := 0
	for range 1500 {
		h, agreed := s.race(2, api.MaxHeatWords)
		checkFinishes(t, h, agreed)
		for range 6 {
			checkWord(t, h, randomWord(s.Rand, h.Runners), agreed)
		}
		checkCircle(t, h, agreed)
		if len(agreed) == 0 {
			clash++
		}
	}
	if clash < 150 || clash > 500 {
		t.Error(clash)
	}
}

// P7.6, P7.11
func TestBasesAsDefined(t *testing.T) {
	s := samplerOf(92)
	bases := map[bool]int{}
	for i := range 120 {
		words := 7
		if i < 20 {
			words = api.MaxHeatWords
		}
		h, agreed := s.race(4, words)
		checkLeastBase(t, s.finishes[h.Runners], h, agreed)
	}
	for range 600 {
		h, agreed := s.race(3, api.MaxHeatWords)
		for range 10 {
			base := members(s.Intn(1<<len(h.Words)) | s.Intn(1<<len(h.Words)))
			want, isBase := api.ErrNone, isBaseOf(s.finishes[h.Runners], h, base)
			if isBase {
				want = api.OK
			}
			if len(agreed) == 0 {
				want = api.ErrHeat
			}
			if e := heat.CheckBase(h, base); e != want {
				t.Fatal(h, base, e, want)
			}
			bases[isBase]++
		}
	}
	if bases[true] < 500 || bases[false] < 500 {
		t.Error(bases)
	}
}

// P7.6: all lists of up to four numbers from -1 to one above the last word.
func TestCheckBaseOfAnyList(t *testing.T) {
	s := samplerOf(105)
	seen := map[api.Errno]int{}
	for _, h := range []api.HeatRace{race(3), raceH(), raceJ(), raceK(), race(3, with(0, 1), before(0, 2), noLess(0, 1), noLess(1, 2))} {
		finishes := s.finishes[3]
		for long := range 5 {
			lists(long, -1, len(h.Words), func(list []int) {
				want := api.ErrNone
				if !isIncreasing(list, len(h.Words)) {
					want = api.ErrRange
				} else if len(agreedOf(finishes, h.Words)) == 0 {
					want = api.ErrHeat
				} else if isBaseOf(finishes, h, list) {
					want = api.OK
				}
				seen[want]++
				if e := heat.CheckBase(h, list); e != want {
					t.Fatal(h, list, e, want)
				}
			})
		}
	}
	if len(seen) != 4 {
		t.Error(seen)
	}
}

// isIncreasing reports whether a list is a strictly increasing one of numbers from 0 to below many.
func isIncreasing(list []int, many int) bool {
	for at, n := range list {
		if n < 0 || n >= many || at > 0 && n <= list[at-1] {
			return false
		}
	}
	return true
}

// lists yields all lists of so many numbers from lo to hi.
func lists(long, lo, hi int, yield func([]int)) {
	list := slices.Repeat([]int{lo}, long)
	for {
		yield(slices.Clone(list))
		at := long - 1
		for at >= 0 && list[at] == hi {
			list[at] = lo
			at--
		}
		if at < 0 {
			return
		}
		list[at]++
	}
}

// P7.2: all lists of numbers from 0 to one above the last place.
func TestCheckFinishAsDefined(t *testing.T) {
	s := samplerOf(93)
	seen := map[api.Errno]int{}
	for range 12 {
		h, _ := s.race(2, 3)
		all := s.finishes[h.Runners]
		lists(h.Runners, 0, h.Runners+1, func(list []int) {
			want := api.ErrRule
			if _, is := slices.BinarySearchFunc(all, list, slices.Compare[[]int]); is {
				want = api.ErrHeat
				if len(agreedOf([][]int{list}, h.Words)) > 0 {
					want = api.OK
				}
			}
			seen[want]++
			if e := heat.CheckFinish(h, list); e != want {
				t.Fatal(h, list, e, want)
			}
		})
	}
	if len(seen) != 3 || seen[api.OK] < 50 || seen[api.ErrHeat] < 50 {
		t.Error(seen)
	}
}

// P7.3: all lists of up to four words; none that is shorter than Circle is a circle.
func TestCheckCircleAsDefined(t *testing.T) {
	s := samplerOf(94)
	seen := map[api.Errno]int{}
	for range 150 {
		h, _ := s.race(2, 0)
		for range 1 + s.Intn(6) {
			h.Words = append(h.Words, randomWord(s.Rand, h.Runners))
		}
		shortest := 0
		for long := 1; long <= 4; long++ {
			lists(long, 0, len(h.Words)-1, func(list []int) {
				want := api.ErrRule
				if isCircleOf(h.Words, list) {
					want = api.OK
					shortest = cmp.Or(shortest, long)
				}
				seen[want]++
				if e := heat.CheckCircle(h, list); e != want {
					t.Fatal(h, list, e, want)
				}
			})
		}
		c, e := heat.Circle(h)
		if shortest > 0 && (len(c) != shortest || e != api.OK) || shortest == 0 && e == api.OK && len(c) != 5 {
			t.Fatal(h, c, e, shortest)
		}
	}
	if seen[api.OK] < 1000 || seen[api.ErrRule] < 10000 {
		t.Error(seen)
	}
}

// P7.3: races without short circles, in which links lead away from the long ones.
func TestLongestCircles(t *testing.T) {
	s := samplerOf(104)
	found := map[int]int{}
	for range 3000 {
		h, _ := s.race(4, 0)
		name := s.Perm(h.Runners)
		for at, runner := range name {
			h.Words = append(h.Words, api.HeatWord{One: runner, Two: name[(at+1)%len(name)], Kind: s.Intn(3)})
		}
		for range s.Intn(4) {
			h.Words = append(h.Words, randomWord(s.Rand, h.Runners))
		}
		s.Shuffle(len(h.Words), func(i, j int) { h.Words[i], h.Words[j] = h.Words[j], h.Words[i] })
		n := shortestOf(h)
		found[n]++
		if c, e := heat.Circle(h); n > 0 && (len(c) != n || e != api.OK || !isCircleOf(h.Words, c)) {
			t.Fatal(h, c, e, n)
		}
	}
	if found[4] < 100 || found[5] < 100 {
		t.Error(found)
	}
}

// P7.3: circles of up to 12 words, that go on at random, or one word of which is another one.
func TestLongCircles(t *testing.T) {
	s := samplerOf(95)
	long := map[bool]int{}
	for range 3000 {
		h, _ := s.race(2, 0)
		for range api.MaxHeatWords {
			h.Words = append(h.Words, randomWord(s.Rand, h.Runners))
		}
		at := s.Intn(h.Runners)
		var circle []int
		for range 1 + s.Intn(api.MaxHeatWords) {
			for _, word := range s.Perm(len(h.Words)) {
				w := h.Words[word]
				if w.One == at || w.Two == at && w.Kind == api.HeatWith {
					circle = append(circle, word)
					at = w.One + w.Two - at
					break
				}
			}
		}
		if len(circle) == 0 {
			continue
		}
		if s.Intn(4) == 0 {
			circle[s.Intn(len(circle))] = s.Intn(len(h.Words))
		}
		want := api.ErrRule
		if isCircleOf(h.Words, circle) {
			want = api.OK
		}
		if e := heat.CheckCircle(h, circle); e != want {
			t.Fatal(h, circle, e, want)
		}
		if len(circle) > 5 {
			long[want == api.OK]++
		}
	}
	if long[true] < 200 || long[false] < 200 {
		t.Error(long)
	}
}

func count(t *testing.T, h api.HeatRace) int {
	t.Helper()
	n, e := heat.Count(h)
	if e != api.OK {
		t.Fatal(h, e)
	}
	return n
}

// more is a race with more words.
func more(h api.HeatRace, words ...api.HeatWord) api.HeatRace {
	return race(h.Runners, append(slices.Clone(h.Words), words...)...)
}

// P7.7
func TestEither(t *testing.T) {
	s := samplerOf(96)
	for range 1500 {
		h, _ := s.race(2, api.MaxHeatWords)
		f, e := heat.Finish(h)
		c, d := heat.Circle(h)
		agrees := e == api.OK && heat.CheckFinish(h, f) == api.OK
		clashes := d == api.OK && heat.CheckCircle(h, c) == api.OK
		if agrees == clashes || agrees && d != api.ErrHave || clashes && e != api.ErrHeat || agrees != (count(t, h) > 0) {
			t.Fatal(h, f, e, c, d)
		}
	}
}

// P7.8
func TestFollows(t *testing.T) {
	s := samplerOf(97)
	kinds := map[int]int{}
	for range 1500 {
		h, agreed := s.race(2, api.MaxHeatWords-1)
		w := randomWord(s.Rand, h.Runners)
		k, e := heat.Kind(h, w)
		if (e == api.OK) != (len(agreed) > 0) {
			t.Fatal(h, w, k, e)
		}
		n := count(t, h)
		if e == api.OK {
			kinds[k]++
			m := count(t, more(h, w))
			if (k == api.HeatAlways) != (m == n) || (k == api.HeatNever) != (m == 0) {
				t.Fatal(h, w, k, n, m)
			}
		}
		one, two := w.One, w.Two
		if count(t, more(h, before(one, two)))+count(t, more(h, with(one, two)))+count(t, more(h, before(two, one))) != n {
			t.Fatal(h, w, n)
		}
	}
	for k := range 3 {
		if kinds[k] < 100 {
			t.Error(kinds)
		}
	}
}

// P7.9
func TestMore(t *testing.T) {
	s := samplerOf(98)
	less, agree := 0, 0
	for range 600 {
		h, _ := s.race(2, api.MaxHeatWords-1)
		g := more(h, randomWord(s.Rand, h.Runners))
		n, m := count(t, h), count(t, g)
		if m > n {
			t.Fatal(h, g, n, m)
		}
		if m < n {
			less++
		}
		if m == 0 {
			continue
		}
		agree++
		for runner := range h.Runners {
			r, e := heat.Places(h, runner)
			q, d := heat.Places(g, runner)
			if q.Lo < r.Lo || q.Hi > r.Hi || e != api.OK || d != api.OK {
				t.Fatal(h, g, runner, r, q, e, d)
			}
		}
		for _, w := range wordsOf(h.Runners) {
			k, e := heat.Kind(h, w)
			l, d := heat.Kind(g, w)
			if e != api.OK || d != api.OK || k != api.HeatMay && l != k {
				t.Fatal(h, g, w, k, l, e, d)
			}
		}
	}
	if less < 200 || agree < 200 {
		t.Error(less, agree)
	}
}

// P7.10
func TestPlacesOfFinishes(t *testing.T) {
	s := samplerOf(99)
	sure := 0
	for range 500 {
		h, agreed := s.race(2, api.MaxHeatWords)
		if len(agreed) == 0 {
			continue
		}
		var ranges []api.Range
		for runner := range h.Runners {
			r, e := heat.Places(h, runner)
			hadLo, hadHi := false, false
			for _, finish := range s.finishes[h.Runners] {
				if heat.CheckFinish(h, finish) != api.OK {
					continue
				}
				place := int64(finish[runner])
				if place < r.Lo || place > r.Hi || e != api.OK {
					t.Fatal(h, runner, r, finish, e)
				}
				hadLo, hadHi = hadLo || place == r.Lo, hadHi || place == r.Hi
			}
			if !hadLo || !hadHi {
				t.Fatal(h, runner, r)
			}
			ranges = append(ranges, r)
		}
		for one, a := range ranges {
			for two, b := range ranges {
				if one == two {
					continue
				}
				if k, _ := heat.Kind(h, before(one, two)); k == api.HeatAlways {
					sure++
					if a.Lo >= b.Lo || a.Hi >= b.Hi {
						t.Fatal(h, one, two, a, b)
					}
				}
			}
		}
	}
	if sure < 500 {
		t.Error(sure)
	}
}

// P7.11
func TestBasesAlone(t *testing.T) {
	s := samplerOf(100)
	long := map[int]int{}
	for range 400 {
		h, agreed := s.race(2, api.MaxHeatWords)
		if len(agreed) == 0 {
			continue
		}
		base, e := heat.Base(h)
		if e != api.OK || heat.CheckBase(h, base) != api.OK {
			t.Fatal(h, base, e)
		}
		long[len(base)]++
		alone := race(h.Runners, these(h, base)...)
		for _, finish := range s.finishes[h.Runners] {
			if heat.CheckFinish(alone, finish) != heat.CheckFinish(h, finish) {
				t.Fatal(h, base, finish)
			}
		}
		for at := range base {
			fewer := slices.Delete(slices.Clone(base), at, at+1)
			if n := count(t, race(h.Runners, these(h, fewer)...)); n <= len(agreed) {
				t.Fatal(h, base, fewer, n)
			}
		}
		for range 30 {
			other := members(s.Intn(1 << len(h.Words)))
			if len(other) < len(base) && heat.CheckBase(h, other) != api.ErrNone {
				t.Fatal(h, base, other)
			}
		}
	}
	for n := range 5 {
		if long[n] < 15 {
			t.Error(long)
		}
	}
}

// turned is a word of which the runners are exchanged, if that tells something else.
func turned(w api.HeatWord) api.HeatWord {
	if w.Kind == api.HeatWith {
		return w
	}
	return api.HeatWord{One: w.Two, Two: w.One, Kind: w.Kind}
}

// P7.12
func TestTurned(t *testing.T) {
	s := samplerOf(101)
	for range 300 {
		h, _ := s.race(2, api.MaxHeatWords)
		g := race(h.Runners)
		for _, w := range h.Words {
			g.Words = append(g.Words, turned(w))
		}
		if n, m := count(t, h), count(t, g); n != m {
			t.Fatal(h, g, n, m)
		}
		for _, w := range wordsOf(h.Runners) {
			k, e := heat.Kind(h, w)
			l, d := heat.Kind(g, turned(w))
			if k != l || e != d {
				t.Fatal(h, g, w, k, l, e, d)
			}
		}
	}
}

// P7.13
func TestNamed(t *testing.T) {
	s := samplerOf(102)
	for range 300 {
		h, _ := s.race(2, api.MaxHeatWords)
		name := s.Perm(h.Runners)
		named, mixed := race(h.Runners), race(h.Runners)
		for _, w := range h.Words {
			named.Words = append(named.Words, api.HeatWord{One: name[w.One], Two: name[w.Two], Kind: w.Kind})
		}
		for _, word := range s.Perm(len(h.Words)) {
			mixed.Words = append(mixed.Words, h.Words[word])
		}
		for _, finish := range s.finishes[h.Runners] {
			goes := make([]int, h.Runners)
			for runner, place := range finish {
				goes[name[runner]] = place
			}
			e := heat.CheckFinish(h, finish)
			if heat.CheckFinish(named, goes) != e || heat.CheckFinish(mixed, finish) != e {
				t.Fatal(h, name, finish, e)
			}
		}
		if n := count(t, h); count(t, named) != n || count(t, mixed) != n {
			t.Fatal(h, name, n)
		}
		f, e := heat.Finish(h)
		if g, d := heat.Finish(mixed); !slices.Equal(f, g) || d != e {
			t.Fatal(h, mixed, f, g, e, d)
		}
		for runner := range h.Runners {
			r, _ := heat.Places(h, runner)
			q, _ := heat.Places(named, name[runner])
			p, _ := heat.Places(mixed, runner)
			if r != q || r != p {
				t.Fatal(h, name, runner, r, q, p)
			}
		}
	}
}

// P7.14
func TestSilent(t *testing.T) {
	for runners, many := range map[int]int{2: 3, 3: 13, 4: 75, 5: 541} {
		h := race(runners)
		if n := count(t, h); n != many {
			t.Error(runners, n)
		}
		agreed := 0
		lists(runners, 1, runners, func(list []int) {
			if heat.CheckFinish(h, list) == api.OK {
				agreed++
			}
		})
		if agreed != many {
			t.Error(runners, agreed)
		}
	}
}

// someInt is any number, often one at an end.
func someInt(r *rand.Rand) int {
	near := append(slices.Clone(farthest), -1, 0, 1, 2, 3, 4, 5, 6, 11, 12, 13, 63, 64, 1<<32, 1<<62)
	if r.Intn(4) == 0 {
		return int(r.Uint64())
	}
	return near[r.Intn(len(near))]
}

func someList(r *rand.Rand, most int) []int {
	var list []int
	for range r.Intn(most + 1) {
		list = append(list, someInt(r))
	}
	return list
}

// call is arguments of all functions.
type call struct {
	h             api.HeatRace
	finish        []int
	circle        []int
	word          api.HeatWord
	runner, place int
	base          []int
}

func (c call) clone() call {
	c.h.Words, c.finish, c.circle, c.base = slices.Clone(c.h.Words), slices.Clone(c.finish), slices.Clone(c.circle), slices.Clone(c.base)
	return c
}

// someCall is arguments of which some can be anything.
func (s sampler) someCall() call {
	odd := func() bool { return s.Intn(5) == 0 }
	h, _ := s.race(2, api.MaxHeatWords)
	all := s.finishes[h.Runners]
	c := call{h: h, finish: slices.Clone(all[s.Intn(len(all))]), word: randomWord(s.Rand, h.Runners), runner: s.Intn(h.Runners), place: 1 + s.Intn(h.Runners)}
	c.base = members(s.Intn(1 << len(h.Words)))
	c.circle = s.Perm(len(h.Words))
	if odd() {
		c.h.Runners = someInt(s.Rand)
	}
	if odd() {
		c.h.Words = append(c.h.Words, api.HeatWord{One: someInt(s.Rand), Two: someInt(s.Rand), Kind: someInt(s.Rand)})
	}
	if odd() {
		c.finish = someList(s.Rand, 6)
	}
	if odd() {
		c.circle = someList(s.Rand, 13)
	}
	if odd() {
		c.word = api.HeatWord{One: someInt(s.Rand), Two: someInt(s.Rand), Kind: someInt(s.Rand)}
	}
	if odd() {
		c.runner = someInt(s.Rand)
	}
	if odd() {
		c.place = someInt(s.Rand)
	}
	if odd() {
		c.base = someList(s.Rand, 13)
	}
	return c
}

// answers are the results of all functions: of each its results, and at last its error.
func (c call) answers() [][]any {
	pair := func(a, b any) []any { return []any{a, b} }
	return [][]any{
		{heat.CheckRace(c.h)}, {heat.CheckFinish(c.h, c.finish)}, pair(heat.Finish(c.h)), pair(heat.Count(c.h)),
		{heat.CheckCircle(c.h, c.circle)}, pair(heat.Circle(c.h)), pair(heat.Kind(c.h, c.word)),
		pair(heat.Places(c.h, c.runner)), pair(heat.Placed(c.h, c.runner, c.place)),
		{heat.CheckBase(c.h, c.base)}, pair(heat.Base(c.h)),
	}
}

// isZero reports whether a result is what comes with an error.
func isZero(result any) bool {
	v := reflect.ValueOf(result)
	return v.IsZero() || v.Kind() == reflect.Slice && v.Len() == 0
}

// P1, R2, R4, R9, R10
func TestAnyArguments(t *testing.T) {
	s := samplerOf(103)
	for range 2000 {
		c := s.someCall()
		kept := c.clone()
		got := c.answers()
		for i, results := range got {
			last := len(results) - 1
			for _, result := range results[:last] {
				if results[last] != api.OK && !isZero(result) {
					t.Fatal(c, i, results)
				}
			}
		}
		if !reflect.DeepEqual(c, kept) {
			t.Fatal("an argument is changed", c, kept)
		}
		if again := c.answers(); !reflect.DeepEqual(got, again) {
			t.Fatal(c, got, again)
		}
	}
}

// R9: of many circles the same one is returned.
func TestCircleAgain(t *testing.T) {
	for i, h := range []api.HeatRace{
		race(5, before(0, 1), noLess(1, 4), noLess(1, 3), noLess(1, 2), noLess(4, 0), noLess(2, 0), noLess(3, 0)),
		race(5, before(1, 0), before(2, 0), before(3, 0), before(4, 0), noLess(0, 1), noLess(0, 2), noLess(0, 3), noLess(0, 4)),
		race(5, before(0, 1), before(0, 2), before(0, 3), before(0, 4), noLess(1, 0), noLess(2, 0), noLess(3, 0), noLess(4, 0)),
		race(5, before(0, 1), before(1, 0), before(2, 3), before(3, 2), before(4, 0), before(0, 4), with(0, 1), with(2, 3)),
		race(4, before(0, 1), before(1, 2), before(2, 3), before(3, 0), before(1, 0), before(2, 1), before(3, 2), before(0, 3)),
	} {
		first, e := heat.Circle(h)
		if e != api.OK {
			t.Fatal(i, e)
		}
		for range 200 {
			if c, _ := heat.Circle(h); !slices.Equal(c, first) {
				t.Fatal(i, c, first)
			}
		}
	}
}

// R3
func TestNilIsEmpty(t *testing.T) {
	for _, words := range [][]api.HeatWord{nil, {}} {
		h := race(3, words...)
		h.Words = words
		if n, e := heat.Count(h); n != 13 || e != api.OK {
			t.Error(n, e)
		}
		if b, e := heat.Base(h); len(b) != 0 || e != api.OK {
			t.Error(b, e)
		}
		for _, empty := range [][]int{nil, {}} {
			if e := heat.CheckFinish(h, empty); e != api.ErrEqual {
				t.Error(e)
			}
			if e := heat.CheckCircle(h, empty); e != api.ErrMany {
				t.Error(e)
			}
			if e := heat.CheckBase(h, empty); e != api.OK {
				t.Error(e)
			}
		}
	}
}

// keeps reports whether calls return the same again after the list that a call has returned is overwritten.
func keeps(ask func(api.HeatRace) ([]int, api.Errno), h api.HeatRace) bool {
	words := slices.Clone(h.Words)
	first, _ := ask(h)
	kept := slices.Clone(first)
	clear(first)
	second, _ := ask(h)
	return len(kept) > 0 && slices.Equal(second, kept) && slices.Equal(words, h.Words)
}

// R4
func TestResultsShareNoMemory(t *testing.T) {
	if !keeps(heat.Finish, raceK()) {
		t.Error("Finish")
	}
	if !keeps(heat.Circle, round()) {
		t.Error("Circle")
	}
	if !keeps(heat.Base, raceK()) {
		t.Error("Base")
	}
}

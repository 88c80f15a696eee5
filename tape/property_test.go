package tape_test

import (
	"maps"
	"math/rand"
	"reflect"
	"slices"
	"strings"
	"testing"

	"quinella/api"
	"quinella/tape"
)

// letters are those of so many windows.
func letters(windows int) []byte { return []byte("abcde"[:windows]) }

// strs returns all strings of so many letters, in lexicographic order.
func strs(windows, long int) []string {
	all := []string{""}
	for range long {
		var longer []string
		for _, s := range all {
			for _, c := range letters(windows) {
				longer = append(longer, s+string(c))
			}
		}
		all = longer
	}
	return all
}

// leftOf returns all that can be left of a string without some of its letters.
func leftOf(s string) map[string]bool {
	left := map[string]bool{"": true}
	for _, c := range []byte(s) {
		for old := range maps.Clone(left) {
			left[old+string(c)] = true
		}
	}
	return left
}

// record is a night, and all that can be left of it.
type record struct {
	night string
	left  map[string]bool
}

// records are all nights of some lengths, in their order.
type records map[[2]int][]record

// of returns the nights of a set, by trying all of the length.
func (r records) of(x api.TapeSet, long int) []string {
	key := [2]int{x.Windows, long}
	if r[key] == nil {
		for _, s := range strs(x.Windows, long) {
			r[key] = append(r[key], record{s, leftOf(s)})
		}
	}
	var nights []string
	for _, one := range r[key] {
		isNone := func(t string) bool { return !one.left[t] }
		if !slices.ContainsFunc(x.Tapes, isNone) {
			nights = append(nights, one.night)
		}
	}
	return nights
}

// rests are what is left of each tape.
type rests [api.MaxTapes]string

func restsOf(x api.TapeSet) rests {
	var r rests
	copy(r[:], x.Tapes)
	return r
}

// cut is the rests behind one more letter.
func (r rests) cut(c byte) rests {
	for i := range r {
		r[i] = strings.TrimPrefix(r[i], string(c))
	}
	return r
}

// hasAll reports whether a night has the tapes of a set.
func hasAll(x api.TapeSet, night string) bool {
	r := restsOf(x)
	for _, c := range []byte(night) {
		r = r.cut(c)
	}
	return r == rests{}
}

// fewestOf returns the fewest impulses: letter by letter all rests are looked at that can be left.
func fewestOf(x api.TapeSet) int {
	now := map[rests]bool{restsOf(x): true}
	for long := 0; ; long++ {
		if now[rests{}] {
			return long
		}
		next := map[rests]bool{}
		for r := range now {
			for _, c := range letters(x.Windows) {
				next[r.cut(c)] = true
			}
		}
		now = next
	}
}

// countFrom returns how many nights go on from rests.
func countFrom(windows int, r rests, long int) int64 {
	now := map[rests]int64{r: 1}
	for range long {
		next := map[rests]int64{}
		for r, many := range now {
			for _, c := range letters(windows) {
				next[r.cut(c)] += many
			}
		}
		now = next
	}
	return now[rests{}]
}

func countOf(x api.TapeSet, long int) int64 { return countFrom(x.Windows, restsOf(x), long) }

// before returns how many nights come before this one.
func before(x api.TapeSet, night string) int64 {
	var many int64
	r := restsOf(x)
	for i, c := range []byte(night) {
		for less := byte('a'); less < c; less++ {
			many += countFrom(x.Windows, r.cut(less), len(night)-i-1)
		}
		r = r.cut(c)
	}
	return many
}

// pullsOf returns how many letters of a window nights have: all numbers are looked at.
func pullsOf(x api.TapeSet, long int, window byte) (api.Range, api.Errno) {
	type key struct {
		rests
		n int
	}
	now := map[key]bool{{restsOf(x), 0}: true}
	for range long {
		next := map[key]bool{}
		for k := range now {
			for _, c := range letters(x.Windows) {
				next[key{k.cut(c), k.n + strings.Count(string(c), string(window))}] = true
			}
		}
		now = next
	}
	var seen []int
	for k := range now {
		if k.rests == (rests{}) {
			seen = append(seen, k.n)
		}
	}
	if len(seen) == 0 {
		return api.Range{}, api.ErrTape
	}
	return rg(int64(slices.Min(seen)), int64(slices.Max(seen))), api.OK
}

// isBefore reports whether an impulse comes before another one in a night.
func isBefore(night string, one, two api.TapeImpulse) bool {
	at := func(x api.TapeImpulse) int {
		n := 0
		for i, c := range []byte(night) {
			if c == x.Window {
				n++
				if n == x.Nth {
					return i
				}
			}
		}
		return -1
	}
	return at(one) >= 0 && at(two) >= 0 && at(one) < at(two)
}

// kindOfNights is the kind of something in nights, of which there has to be one.
func kindOfNights(nights []string, isSo func(string) bool) int {
	some, all := false, true
	for _, s := range nights {
		some, all = some || isSo(s), all && isSo(s)
	}
	if all {
		return api.TapeAlways
	}
	if some {
		return api.TapeMay
	}
	return api.TapeNever
}

// kindOf is the kind of two impulses: of nights it is only kept how many letters of both windows they had, until it is told whether it is so.
func kindOf(x api.TapeSet, long int, one, two api.TapeImpulse) (int, api.Errno) {
	type key struct {
		rests
		one, two   int
		isSo, isNo bool
	}
	now := map[key]bool{{rests: restsOf(x)}: true}
	for range long {
		next := map[key]bool{}
		for k := range now {
			for _, c := range letters(x.Windows) {
				to := k
				to.rests = k.cut(c)
				if !k.isSo && !k.isNo {
					to.one += strings.Count(string(c), string(one.Window))
					to.two += strings.Count(string(c), string(two.Window))
					if to.two == two.Nth {
						to = key{rests: to.rests, isSo: k.one >= one.Nth, isNo: k.one < one.Nth}
					}
				}
				next[to] = true
			}
		}
		now = next
	}
	some, not := false, false
	for k := range now {
		if k.rests == (rests{}) {
			some, not = some || k.isSo, not || !k.isSo
		}
	}
	switch {
	case some && not:
		return api.TapeMay, api.OK
	case some:
		return api.TapeAlways, api.OK
	case not:
		return api.TapeNever, api.OK
	}
	return 0, api.ErrTape
}

// commonOf returns the longest string that is left of all tapes, of several the first one.
func commonOf(x api.TapeSet) string {
	found := leftOf(x.Tapes[0])
	for _, other := range x.Tapes[1:] {
		left := leftOf(other)
		maps.DeleteFunc(found, func(s string, _ bool) bool { return !left[s] })
	}
	longest := ""
	for s := range found {
		if len(s) > len(longest) || len(s) == len(longest) && s < longest {
			longest = s
		}
	}
	return longest
}

// but returns a set without some tapes, a bit for each of them; of no tapes is left of each night what is left of an empty one.
func but(x api.TapeSet, wrong int) (api.TapeSet, []int) {
	var others []string
	var without []int
	for i, s := range x.Tapes {
		if wrong>>i&1 == 0 {
			others = append(others, s)
		} else {
			without = append(without, i)
		}
	}
	if others == nil {
		others = []string{""}
	}
	return set(x.Windows, others...), without
}

// wrongOf returns the fewest tapes that can be wrong.
func wrongOf(x api.TapeSet, long int) []int {
	var found [][]int
	for wrong := range 1 << len(x.Tapes) {
		if others, without := but(x, wrong); fewestOf(others) <= long {
			found = append(found, without)
		}
	}
	slices.SortFunc(found, func(a, b []int) int {
		if len(a) != len(b) {
			return len(a) - len(b)
		}
		return slices.Compare(a, b)
	})
	return found[0]
}

// placesOf returns what is left of the tapes at each place, in their order.
func placesOf(x api.TapeSet) []rests {
	all := []rests{{}}
	for i, s := range x.Tapes {
		var longer []rests
		for _, r := range all {
			for over := range len(s) + 1 {
				r[i] = s[over:]
				longer = append(longer, r)
			}
		}
		all = longer
	}
	return all
}

// tableError is the error of a table.
func tableError(x api.TapeSet, table []int) api.Errno {
	all := placesOf(x)
	if len(table) != len(all) {
		return api.ErrEqual
	}
	number := map[rests]int{}
	for i, r := range all {
		if table[i] < 0 || table[i] > 24 {
			return api.ErrRange
		}
		number[r] = table[i]
	}
	// Places at which the same is left are one key only if the numbers of over impulses are the same, as each rest tells its length.
	for r, n := range number {
		for _, c := range letters(x.Windows) {
			if n > number[r.cut(c)]+1 {
				return api.ErrSum
			}
		}
	}
	if number[rests{}] != 0 {
		return api.ErrSum
	}
	return api.OK
}

// impulses are all those of a set up to a number.
func impulses(windows, most int) []api.TapeImpulse {
	var all []api.TapeImpulse
	for _, c := range letters(windows) {
		for n := range most {
			all = append(all, nth(c, n+1))
		}
	}
	return all
}

// compareNights compares Count, Night, Pulls and Kind with all nights of a length.
func compareNights(t *testing.T, x api.TapeSet, long int, nights []string) {
	t.Helper()
	if n, e := tape.Count(x, long); n != int64(len(nights)) || e != api.OK {
		t.Fatal("Count", x, long, n, e)
	}
	for i, want := range nights {
		if s, e := tape.Night(x, long, int64(i)); s != want || e != api.OK {
			t.Fatal("Night", x, long, i, s, e)
		}
	}
	if s, e := tape.Night(x, long, int64(len(nights))); s != "" || e != api.ErrRange {
		t.Fatal("Night", x, long, len(nights), s, e)
	}
	if len(nights) == 0 {
		return
	}
	for _, c := range letters(x.Windows) {
		pulled := func(s string) int { return strings.Count(s, string(c)) }
		compare := func(a, b string) int { return pulled(a) - pulled(b) }
		want := rg(int64(pulled(slices.MinFunc(nights, compare))), int64(pulled(slices.MaxFunc(nights, compare))))
		if r, e := tape.Pulls(x, long, c); r != want || e != api.OK {
			t.Fatal("Pulls", x, long, c, r, e)
		}
	}
}

// compareKinds compares Kind with all nights of a length, of which there is one.
func compareKinds(t *testing.T, x api.TapeSet, long int, nights []string) {
	t.Helper()
	all := impulses(x.Windows, long+1)
	for _, one := range all {
		for _, two := range all {
			want := kindOfNights(nights, func(s string) bool { return isBefore(s, one, two) })
			if k, e := tape.Kind(x, long, one, two); k != want || e != api.OK {
				t.Fatal("Kind", x, long, one, two, k, want, e)
			}
		}
	}
}

// compareBounds compares Fewest, Table, Common and Wrong with the second reading.
func compareBounds(t *testing.T, x api.TapeSet) {
	t.Helper()
	fewest := fewestOf(x)
	if n, e := tape.Fewest(x); n != fewest || e != api.OK {
		t.Fatal("Fewest", x, n, e)
	}
	table, e := tape.Table(x)
	if e != api.OK || tableError(x, table) != api.OK || table[0] != fewest {
		t.Fatal("Table", x, table, e)
	}
	if n, e := tape.CheckTable(x, table); n != fewest || e != api.OK {
		t.Fatal("CheckTable", x, table, n, e)
	}
	if s, e := tape.Common(x); s != commonOf(x) || e != api.OK {
		t.Fatal("Common", x, s, e)
	}
	for long := range min(fewest, api.MaxTapeNight) + 1 {
		if l, e := tape.Wrong(x, long); !slices.Equal(l, wrongOf(x, long)) || e != api.OK {
			t.Fatal("Wrong", x, long, l, e)
		}
	}
}

// smallSets calls do with all sets of these windows and so many tapes, each of at most so many letters.
func smallSets(windows, tapes, most int, do func(api.TapeSet)) {
	var all []string
	for long := range most + 1 {
		all = append(all, strs(windows, long)...)
	}
	var try func(several []string)
	try = func(several []string) {
		if len(several) == tapes {
			do(set(windows, slices.Clone(several)...))
			return
		}
		for _, s := range all {
			try(append(several, s))
		}
	}
	try(nil)
}

// P10.2 to P10.6: all small sets, as the chapter defines it.
func TestAllSmallSets(t *testing.T) {
	all, sets := records{}, 0
	compareAll := func(longest, longestOfKinds int) func(api.TapeSet) {
		return func(x api.TapeSet) {
			sets++
			compareBounds(t, x)
			for long := range longest + 1 {
				nights := all.of(x, long)
				if len(nights) > 0 && (long < fewestOf(x)) {
					t.Fatal(x, long, nights)
				}
				compareNights(t, x, long, nights)
				if len(nights) > 0 && long <= longestOfKinds {
					compareKinds(t, x, long, nights)
				}
			}
		}
	}
	smallSets(1, 1, 8, compareAll(9, 9))
	smallSets(1, 3, 3, compareAll(5, 5))
	smallSets(2, 1, 4, compareAll(6, 6))
	smallSets(2, 2, 3, compareAll(6, 5))
	smallSets(2, 3, 2, compareAll(5, 4))
	smallSets(3, 1, 2, compareAll(4, 4))
	smallSets(3, 2, 2, compareAll(4, 4))
	smallSets(4, 2, 1, compareAll(3, 3))
	smallSets(5, 3, 1, compareAll(3, 2))
	if sets != 9+64+31+225+343+13+169+25+216 {
		t.Error(sets)
	}
}

// P10.1: all small nights, as the chapter defines it.
func TestHasAsDefined(t *testing.T) {
	seen := map[bool]int{}
	for long := range 7 {
		for _, night := range strs(2, long) {
			left := leftOf(night)
			smallSets(2, 2, 2, func(x api.TapeSet) {
				want := left[x.Tapes[0]] && left[x.Tapes[1]]
				seen[want]++
				if has, e := tape.Has(x, night); has != want || e != api.OK || hasAll(x, night) != want {
					t.Fatal(x, night, has, e)
				}
			})
		}
	}
	if seen[true] < 1000 || seen[false] < 1000 {
		t.Error(seen)
	}
}

// P10.3: all tables of small numbers for small sets.
func TestCheckTableAsDefined(t *testing.T) {
	seen := map[api.Errno]int{}
	compareTables := func(x api.TapeSet) {
		table := make([]int, len(placesOf(x)))
		var try func(at int)
		try = func(at int) {
			if at < len(table) {
				for table[at] = -1; table[at] <= 3; table[at]++ {
					try(at + 1)
				}
				return
			}
			want := tableError(x, table)
			seen[want]++
			n, e := tape.CheckTable(x, table)
			if e != want || e == api.OK && n != table[0] || e != api.OK && n != 0 {
				t.Fatal(x, table, n, e)
			}
		}
		try(0)
	}
	smallSets(2, 1, 3, compareTables)
	smallSets(2, 2, 1, compareTables)
	for _, x := range []api.TapeSet{set(2, "ab", "a"), set(2, "b", "ab"), set(3, "b", "", "ca"), set(2, "", "ba", "b")} {
		compareTables(x)
	}
	if seen[api.OK] < 300 || seen[api.ErrSum] < 500 || seen[api.ErrRange] < 500 {
		t.Error(seen)
	}
}

// sampler makes up sets, the same ones in each run.
type sampler struct{ *rand.Rand }

func samplerOf(seed int64) sampler { return sampler{rand.New(rand.NewSource(seed))} }

// from returns a number from lo to hi.
func (s sampler) from(lo, hi int) int { return lo + s.Intn(hi-lo+1) }

// str returns a string of so many letters of the windows.
func (s sampler) str(windows, long int) string {
	var b strings.Builder
	for range long {
		b.WriteByte(byte('a' + s.Intn(windows)))
	}
	return b.String()
}

// left returns what is left of a night without some letters: at most so many are left.
func (s sampler) left(night string, most int) string {
	for len(night) > most || len(night) > 0 && s.Intn(5) == 0 {
		at := s.Intn(len(night))
		night = night[:at] + night[at+1:]
	}
	return night
}

// tapes returns so many tapes of at most so many letters, either of any letters or left of one night.
func (s sampler) tapes(windows, many, most int) []string {
	var several []string
	night := s.str(windows, s.from(most, most+most/2))
	isOfNight := s.Intn(3) > 0
	for range many {
		if isOfNight {
			several = append(several, s.left(night, most))
		} else {
			several = append(several, s.str(windows, s.from(0, most)))
		}
	}
	return several
}

// set returns a set of tapes of at most so many letters, rarely one of which each is all of one letter.
func (s sampler) set(most int) api.TapeSet {
	windows := s.from(1, api.MaxTapeWindows)
	if s.Intn(20) == 0 {
		x := set(windows)
		for number := range min(windows, api.MaxTapes) {
			x.Tapes = append(x.Tapes, strings.Repeat(string(letters(windows)[number]), s.from(most-1, most)))
		}
		return x
	}
	return set(windows, s.tapes(windows, s.from(1, api.MaxTapes), most)...)
}

// impulse returns one of a set that many nights of a length have.
func (s sampler) impulse(x api.TapeSet, long int) api.TapeImpulse {
	most := max(1, min(api.MaxTapeNight, 2*long/x.Windows))
	if s.Intn(10) == 0 {
		most = api.MaxTapeNight
	}
	return nth(byte('a'+s.Intn(x.Windows)), s.from(1, most))
}

// impulseOf returns one that a night has, or some other one if it has no letters.
func (s sampler) impulseOf(x api.TapeSet, night string) api.TapeImpulse {
	if night == "" {
		return s.impulse(x, 1)
	}
	at := s.Intn(len(night))
	return nth(night[at], strings.Count(night[:at+1], string(night[at])))
}

// lengths returns some lengths around a number, and the greatest one.
func lengths(around int) []int {
	var found []int
	for _, long := range list(around-1, around, around+1, around+4, api.MaxTapeNight) {
		if long >= 0 && long <= api.MaxTapeNight && !slices.Contains(found, long) {
			found = append(found, long)
		}
	}
	return found
}

// fewest is Fewest.
func fewest(t *testing.T, x api.TapeSet) int {
	t.Helper()
	n, e := tape.Fewest(x)
	if e != api.OK {
		t.Fatal(x, e)
	}
	return n
}

// count is Count; what is more than can be told is 2^40 + 1.
func count(t *testing.T, x api.TapeSet, long int) int64 {
	t.Helper()
	n, e := tape.Count(x, long)
	if e == api.ErrOver {
		return 1<<40 + 1
	}
	if e != api.OK {
		t.Fatal(x, long, e)
	}
	return n
}

// P10.2 to P10.6: random sets up to the limits, as the chapter defines it.
func TestRandomSets(t *testing.T) {
	s := samplerOf(100)
	kinds := map[int]int{}
	for range 150 {
		x := s.set(api.MaxTapeLong)
		compareBounds(t, x)
		for _, long := range lengths(fewestOf(x)) {
			compareCount(t, s, x, long)
			window := byte('a' + s.Intn(x.Windows))
			want, wantE := pullsOf(x, long, window)
			if r, e := tape.Pulls(x, long, window); r != want || e != wantE {
				t.Fatal("Pulls", x, long, window, r, want, e)
			}
		}
		long := min(s.from(fewestOf(x), max(fewestOf(x), 14)), api.MaxTapeNight)
		night, _ := tape.Night(x, long, s.Int63n(max(1, countOf(x, long))))
		for range 4 {
			one, two := s.impulseOf(x, night), s.impulseOf(x, night)
			want, wantE := kindOf(x, long, one, two)
			kinds[want]++
			if k, e := tape.Kind(x, long, one, two); k != want || e != wantE {
				t.Fatal("Kind", x, long, one, two, k, want, e)
			}
		}
	}
	if kinds[api.TapeAlways] < 20 || kinds[api.TapeMay] < 20 || kinds[api.TapeNever] < 20 {
		t.Error(kinds)
	}
}

// compareCount compares Count and some of Night with the second reading.
func compareCount(t *testing.T, s sampler, x api.TapeSet, long int) {
	t.Helper()
	many := countOf(x, long)
	if n := count(t, x, long); n != min(many, 1<<40+1) {
		t.Fatal("Count", x, long, n, many)
	}
	for _, index := range []int64{0, s.Int63n(many + 1), s.Int63n(many + 1), many - 1, many} {
		night, e := tape.Night(x, long, index)
		if index >= many || index > 1<<40 || index < 0 {
			if night != "" || e != api.ErrRange {
				t.Fatal("Night", x, long, index, night, e)
			}
			continue
		}
		if len(night) != long || !hasAll(x, night) || before(x, night) != index || e != api.OK {
			t.Fatal("Night", x, long, index, night, e)
		}
	}
}

// Kind with the greatest length and impulses far behind, as the chapter defines it.
func TestKindOfLongNights(t *testing.T) {
	s := samplerOf(101)
	kinds := map[int]int{}
	for range 12 {
		x := s.set(4)
		for range 4 {
			one, two := s.impulse(x, 20), s.impulse(x, 20)
			want, wantE := kindOf(x, 20, one, two)
			kinds[want]++
			if k, e := tape.Kind(x, 20, one, two); k != want || e != wantE {
				t.Fatal(x, one, two, k, want, e)
			}
		}
	}
	if kinds[api.TapeMay] < 10 || kinds[api.TapeNever] < 10 {
		t.Error(kinds)
	}
}

// The second readings of all nights and of rests find the same.
func TestSecondReadings(t *testing.T) {
	s := samplerOf(102)
	all := records{}
	for range 200 {
		x := s.set(4)
		x.Windows = max(x.Windows, 2)
		for long := range 6 {
			nights := all.of(x, long)
			if int64(len(nights)) != countOf(x, long) || (len(nights) > 0) != (long >= fewestOf(x)) {
				t.Fatal(x, long, len(nights))
			}
			if len(nights) == 0 {
				continue
			}
			at := s.Intn(len(nights))
			if before(x, nights[at]) != int64(at) {
				t.Fatal(x, nights[at], at)
			}
			one, two := s.impulse(x, long), s.impulse(x, long)
			isSo := func(night string) bool { return isBefore(night, one, two) }
			if k, e := kindOf(x, long, one, two); k != kindOfNights(nights, isSo) || e != api.OK {
				t.Fatal(x, long, one, two, k)
			}
		}
	}
}

// nights returns all nights of a length, by Night, if they are not too many.
func nights(t *testing.T, x api.TapeSet, long int) []string {
	t.Helper()
	var all []string
	for {
		s, e := tape.Night(x, long, int64(len(all)))
		if e == api.ErrRange {
			return all
		}
		if e != api.OK || len(all) > 5000 {
			t.Fatal(x, long, len(all), s, e)
		}
		all = append(all, s)
	}
}

// has is Has.
func has(t *testing.T, x api.TapeSet, night string) bool {
	t.Helper()
	has, e := tape.Has(x, night)
	if e != api.OK {
		t.Fatal(x, night, e)
	}
	return has
}

// P10.7: a night of as many letters as the fewest impulses has the tapes.
func TestShortestNight(t *testing.T) {
	s := samplerOf(107)
	short, long := 0, 0
	for range 500 {
		x := s.set(api.MaxTapeLong)
		n := fewest(t, x)
		if n > api.MaxTapeNight {
			long++
			continue
		}
		short++
		if night, e := tape.Night(x, n, 0); len(night) != n || !has(t, x, night) || e != api.OK {
			t.Fatal(x, n, night, e)
		}
	}
	if short < 300 || long == 0 {
		t.Error(short, long)
	}
}

// P10.7: no string with fewer letters than the fewest impulses has the tapes.
func TestNoShorterNight(t *testing.T) {
	s := samplerOf(1107)
	strings := 0
	for range 150 {
		windows := s.from(1, 3)
		x := set(windows, s.tapes(windows, s.from(1, 3), 5)...)
		for long := range min(fewest(t, x), 8) {
			for _, night := range strs(windows, long) {
				strings++
				if has(t, x, night) {
					t.Fatal(x, night)
				}
			}
		}
	}
	if strings < 10000 {
		t.Error(strings)
	}
}

// P10.7: no right table has a first number greater than the fewest impulses.
func TestRightTables(t *testing.T) {
	s := samplerOf(2107)
	equal, less := 0, 0
	for range 300 {
		x := s.set(s.from(1, api.MaxTapeLong))
		all := placesOf(x)
		table, number := make([]int, len(all)), map[rests]int{}
		room := s.from(0, 3)
		// What is left is nearer to the end of the list of places the less it is.
		for i, r := range slices.Backward(all) {
			table[i] = max(0, api.MaxTapeBound-s.Intn(room+1))
			for _, c := range letters(x.Windows) {
				if to := r.cut(c); to != r {
					table[i] = min(table[i], number[to]+1)
				}
			}
			if r == (rests{}) {
				table[i] = 0
			}
			table[i] = max(0, table[i]-s.Intn(8*room+1)/(7*room+1))
			number[r] = table[i]
		}
		n, e := tape.CheckTable(x, table)
		if e != api.OK || n != table[0] || n > fewest(t, x) {
			t.Fatal(x, table, n, e)
		}
		if n == fewest(t, x) {
			equal++
		} else {
			less++
		}
	}
	if equal < 50 || less < 50 {
		t.Error(equal, less)
	}
}

// P10.7: each number of a table that is changed makes it a right one whose first number is no greater, or not right.
func TestSpoiledTables(t *testing.T) {
	s := samplerOf(3107)
	seen := map[api.Errno]int{}
	for range 2000 {
		x := s.set(s.from(1, api.MaxTapeLong))
		table, e1 := tape.Table(x)
		for range s.from(1, 3) {
			table[s.Intn(len(table))] += s.from(-1, 1)
		}
		n, e := tape.CheckTable(x, table)
		seen[e]++
		if e != tableError(x, table) || e == api.OK && n > fewest(t, x) || e1 != api.OK {
			t.Fatal(x, table, n, e)
		}
	}
	if seen[api.OK] < 200 || seen[api.ErrSum] < 200 || seen[api.ErrRange] < 5 {
		t.Error(seen)
	}
}

// P10.8: nights are in strictly increasing order, have the tapes, and are as many as Count says.
func TestCounted(t *testing.T) {
	s := samplerOf(108)
	all := 0
	for range 200 {
		x := s.set(api.MaxTapeLong)
		for long := max(0, fewest(t, x)-1); long <= min(20, fewest(t, x)+3); long++ {
			n := count(t, x, long)
			if n > 500 {
				break
			}
			found := nights(t, x, long)
			all += len(found)
			if int64(len(found)) != n {
				t.Fatal(x, long, n, found)
			}
			for i, night := range found {
				if len(night) != long || !has(t, x, night) || i > 0 && found[i-1] >= night {
					t.Fatal(x, long, i, night)
				}
			}
		}
	}
	if all < 5000 {
		t.Error(all)
	}
}

// behind returns the set of what is left of the tapes behind a letter.
func behind(x api.TapeSet, c byte) api.TapeSet {
	r := restsOf(x).cut(c)
	return set(x.Windows, r[:len(x.Tapes)]...)
}

// P10.8: there are as many nights as, for all windows, nights that begin with it.
func TestCountedByWindows(t *testing.T) {
	s := samplerOf(1108)
	some := 0
	for range 300 {
		x := s.set(api.MaxTapeLong)
		for _, long := range lengths(fewest(t, x)) {
			if long == 0 {
				continue
			}
			var sum int64
			for _, c := range letters(x.Windows) {
				sum += count(t, behind(x, c), long-1)
			}
			n := count(t, x, long)
			if n != min(sum, 1<<40+1) {
				t.Fatal(x, long, n, sum)
			}
			if n > 0 {
				some++
			}
		}
	}
	if some < 500 {
		t.Error(some)
	}
}

// index returns the index of a night, found by Night.
func index(t *testing.T, x api.TapeSet, night string) int64 {
	t.Helper()
	var lo int64
	hi := count(t, x, len(night))
	for hi-lo > 1 {
		middle := lo + (hi-lo)/2
		s, e := tape.Night(x, len(night), middle)
		if e != api.OK {
			t.Fatal(x, night, middle, e)
		}
		if s <= night {
			lo = middle
		} else {
			hi = middle
		}
	}
	return lo
}

// P10.9: if tapes were left of a night, it has them, is one of the nights, and what is told of these is true of it.
func TestHeld(t *testing.T) {
	s := samplerOf(109)
	kinds := map[int]int{}
	for range 300 {
		windows := s.from(1, api.MaxTapeWindows)
		night := s.str(windows, s.from(0, 13))
		x := api.TapeSet{Windows: windows}
		for range s.from(1, 3) {
			x.Tapes = append(x.Tapes, s.left(night, api.MaxTapeLong))
		}
		if !has(t, x, night) || fewest(t, x) > len(night) {
			t.Fatal(x, night)
		}
		if got, e := tape.Night(x, len(night), index(t, x, night)); got != night || e != api.OK {
			t.Fatal(x, night, got, e)
		}
		for _, c := range letters(windows) {
			r, e := tape.Pulls(x, len(night), c)
			if n := int64(strings.Count(night, string(c))); n < r.Lo || n > r.Hi || e != api.OK {
				t.Fatal(x, night, c, r, e)
			}
		}
		for range 5 {
			one, two := s.impulseOf(x, night), s.impulseOf(x, night)
			if s.Intn(3) == 0 {
				two = s.impulse(x, len(night))
			}
			k, e := tape.Kind(x, len(night), one, two)
			kinds[k]++
			isSo := isBefore(night, one, two)
			if e != api.OK || isSo && k == api.TapeNever || !isSo && k == api.TapeAlways {
				t.Fatal(x, night, one, two, k, e)
			}
		}
	}
	if kinds[api.TapeAlways] < 30 || kinds[api.TapeMay] < 100 || kinds[api.TapeNever] < 100 {
		t.Error(kinds)
	}
}

// P10.10: with one tape more there are no fewer impulses, and no more nights; Pulls has no wider range; what is always, or never, true stays so.
func TestMore(t *testing.T) {
	s := samplerOf(110)
	changed := map[string]int{}
	for range 300 {
		x := set(s.from(1, api.MaxTapeWindows))
		x.Tapes = s.tapes(x.Windows, s.from(2, 3), s.from(1, api.MaxTapeLong))
		less := set(x.Windows, x.Tapes[1:]...)
		if fewest(t, x) < fewest(t, less) {
			t.Fatal(x)
		}
		for _, long := range lengths(fewest(t, x)) {
			n, before := count(t, x, long), count(t, less, long)
			if n > before {
				t.Fatal(x, long)
			}
			if n < before {
				changed["nights"]++
			}
			if n == 0 {
				continue
			}
			for _, c := range letters(x.Windows) {
				r, e := tape.Pulls(x, long, c)
				old, e1 := tape.Pulls(less, long, c)
				if r.Lo < old.Lo || r.Hi > old.Hi || e != api.OK || e1 != api.OK {
					t.Fatal(x, long, c, r, old, e, e1)
				}
				if r != old {
					changed["pulls"]++
				}
			}
			one, two := s.impulse(x, long), s.impulse(x, long)
			k, e := tape.Kind(x, long, one, two)
			old, e1 := tape.Kind(less, long, one, two)
			if e != api.OK || e1 != api.OK || old != api.TapeMay && k != old {
				t.Fatal(x, long, one, two, k, old, e, e1)
			}
			if k != old {
				changed["kind"]++
			}
		}
	}
	if changed["nights"] < 100 || changed["pulls"] < 100 || changed["kind"] < 20 {
		t.Error(changed)
	}
}

// common is Common.
func common(t *testing.T, x api.TapeSet) string {
	t.Helper()
	s, e := tape.Common(x)
	if e != api.OK {
		t.Fatal(x, e)
	}
	return s
}

// P10.11: the fewest impulses of two tapes, and the length of Common, are together the lengths of both.
func TestTwo(t *testing.T) {
	s := samplerOf(111)
	seen := map[int]int{}
	for range 1000 {
		windows := s.from(1, api.MaxTapeWindows)
		x := set(windows, s.tapes(windows, 2, api.MaxTapeLong)...)
		long := len(common(t, x))
		seen[long]++
		if fewest(t, x)+long != len(x.Tapes[0])+len(x.Tapes[1]) {
			t.Fatal(x, long)
		}
	}
	if len(seen) != api.MaxTapeLong+1 {
		t.Error(seen)
	}
}

// turned returns a set whose tapes are read from their ends.
func turned(x api.TapeSet) api.TapeSet {
	other := api.TapeSet{Windows: x.Windows}
	for _, s := range x.Tapes {
		b := []byte(s)
		slices.Reverse(b)
		other.Tapes = append(other.Tapes, string(b))
	}
	return other
}

// exchanged returns a set in which two windows are exchanged.
func exchanged(x api.TapeSet, one, two byte) api.TapeSet {
	other := api.TapeSet{Windows: x.Windows}
	for _, s := range x.Tapes {
		other.Tapes = append(other.Tapes, strings.NewReplacer(string(one), string(two), string(two), string(one)).Replace(s))
	}
	return other
}

// P10.12: if tapes are read from their ends, or two windows are exchanged, there are as many nights, the fewest impulses stay, and Common has the same length.
func TestTurned(t *testing.T) {
	s := samplerOf(112)
	for range 400 {
		x := s.set(api.MaxTapeLong)
		two := s.from(1, max(1, x.Windows-1))
		others := []api.TapeSet{turned(x)}
		if x.Windows > 1 {
			others = append(others, exchanged(x, byte('a'+s.Intn(two)), byte('a'+two)))
		}
		for _, other := range others {
			if fewest(t, x) != fewest(t, other) || len(common(t, x)) != len(common(t, other)) {
				t.Fatal(x, other)
			}
			for _, long := range lengths(fewest(t, x)) {
				if count(t, x, long) != count(t, other, long) {
					t.Fatal(x, other, long)
				}
			}
		}
	}
}

// P10.13: without the tapes of Wrong the others have a night of the length; without fewer they have none.
func TestWrongTapes(t *testing.T) {
	s := samplerOf(113)
	sizes := make([]int, 4)
	for range 500 {
		x := s.set(api.MaxTapeLong)
		long := s.from(0, min(fewest(t, x), api.MaxTapeNight))
		wrong, e := tape.Wrong(x, long)
		if e != api.OK || !slices.IsSorted(wrong) || len(slices.Compact(slices.Clone(wrong))) != len(wrong) {
			t.Fatal(x, long, wrong, e)
		}
		sizes[len(wrong)]++
		isFound := false
		for bits := range 1 << len(x.Tapes) {
			others, without := but(x, bits)
			isNight := count(t, others, long) > 0
			if slices.Equal(without, wrong) {
				isFound = isNight
			} else if len(without) < len(wrong) && isNight {
				t.Fatal(x, long, wrong, without)
			}
		}
		if !isFound {
			t.Fatal(x, long, wrong)
		}
	}
	if slices.Min(sizes) < 20 {
		t.Error(sizes)
	}
}

// P10.14: of each length there are at least as many nights as of a length less by one, times the Windows; there is one just if the length is not less than the fewest impulses.
func TestLonger(t *testing.T) {
	s := samplerOf(114)
	for range 200 {
		x := s.set(api.MaxTapeLong)
		n := fewest(t, x)
		var shorter int64
		for long := range api.MaxTapeNight + 1 {
			many := count(t, x, long)
			if many < min(shorter*int64(x.Windows), 1<<40+1) || (many > 0) != (long >= n) {
				t.Fatal(x, long, many, shorter, n)
			}
			shorter = many
		}
	}
}

// someInt returns a number that is mostly from lo to hi.
func (s sampler) someInt(lo, hi int) int {
	switch s.Intn(40) {
	case 0:
		return farInts[s.Intn(len(farInts))]
	case 1:
		return s.from(lo-2, hi+2)
	}
	return s.from(lo, hi)
}

// someStr returns a string that is mostly one of letters of the windows, and rarely a long one.
func (s sampler) someStr(windows, most int) string {
	if s.Intn(25) == 0 {
		most *= 2
	}
	str := s.str(windows, s.from(0, most))
	if s.Intn(15) == 0 {
		at := s.from(0, len(str))
		str = str[:at] + badTapes[s.Intn(len(badTapes))] + str[at:]
	}
	return str
}

// call are arguments of all functions.
type call struct {
	x        api.TapeSet
	night    string
	table    []int
	long     int
	index    int64
	one, two api.TapeImpulse
}

func (c call) clone() call {
	c.x.Tapes, c.table = slices.Clone(c.x.Tapes), slices.Clone(c.table)
	return c
}

// someCall returns arguments that are mostly valid.
func (s sampler) someCall() call {
	windows := s.from(1, api.MaxTapeWindows)
	c := call{x: set(windows, s.tapes(windows, s.from(1, 3), s.from(1, 5))...), night: s.someStr(windows, 14)}
	for i := range c.x.Tapes {
		if s.Intn(8) == 0 {
			c.x.Tapes[i] = s.someStr(windows, api.MaxTapeLong)
		}
	}
	if s.Intn(10) == 0 {
		c.x.Windows = s.someInt(1, api.MaxTapeWindows)
	}
	if s.Intn(15) == 0 {
		c.x.Tapes = slices.Repeat(c.x.Tapes, s.from(0, 3))
	}
	c.table = make([]int, s.Intn(4))
	if tape.CheckSet(c.x) == api.OK {
		c.table, _ = tape.Table(c.x)
	}
	if s.Intn(3) == 0 && len(c.table) > 0 {
		c.table[s.Intn(len(c.table))] = s.someInt(0, api.MaxTapeBound)
	}
	if s.Intn(8) == 0 {
		c.table = append(c.table, 0)
	}
	c.long, c.index = s.someInt(0, 12), int64(s.someInt(0, 1000))
	for _, x := range []*api.TapeImpulse{&c.one, &c.two} {
		*x = nth(byte('a'+s.someInt(0, windows-1)), s.someInt(1, 6))
	}
	return c
}

// functions are the names of all functions.
var functions = []string{"CheckSet", "Has", "Fewest", "CheckTable", "Table", "Common", "Count", "Night", "Pulls", "Kind", "Wrong"}

// answers are the results of all functions, in their order, the error last.
func (c call) answers() [][]any {
	has, e1 := tape.Has(c.x, c.night)
	fewest, e2 := tape.Fewest(c.x)
	number, e3 := tape.CheckTable(c.x, c.table)
	table, e4 := tape.Table(c.x)
	common, e5 := tape.Common(c.x)
	many, e6 := tape.Count(c.x, c.long)
	night, e7 := tape.Night(c.x, c.long, c.index)
	pulls, e8 := tape.Pulls(c.x, c.long, c.one.Window)
	kind, e9 := tape.Kind(c.x, c.long, c.one, c.two)
	wrong, e10 := tape.Wrong(c.x, c.long)
	return [][]any{
		{tape.CheckSet(c.x)}, {has, e1}, {fewest, e2}, {number, e3}, {table, e4}, {common, e5}, {many, e6}, {night, e7}, {pulls, e8}, {kind, e9}, {wrong, e10},
	}
}

func isZero(result any) bool {
	v := reflect.ValueOf(result)
	return v.IsZero() || v.Kind() == reflect.Slice && v.Len() == 0
}

// P1, R2, R4, R9, R10: whatever the arguments are, functions end, return nothing beside an error, change no argument, and return the same again.
func TestAnyArguments(t *testing.T) {
	s := samplerOf(103)
	for range 2000 {
		c := s.someCall()
		kept := c.clone()
		got := c.answers()
		for i, results := range got {
			last := len(results) - 1
			for _, result := range results[:last] {
				if results[last] != api.OK && !isZero(result) {
					t.Fatal(c, functions[i], results)
				}
			}
		}
		if !reflect.DeepEqual(c.clone(), kept) {
			t.Fatal("an argument is changed", c, kept)
		}
		if again := c.answers(); !reflect.DeepEqual(got, again) {
			t.Fatal(c, got, again)
		}
	}
}

// either is an error that a function returns if it is so.
type either struct {
	isSo bool
	e    api.Errno
}

// firstOf returns the first error of those that are so.
func firstOf(errors ...either) api.Errno {
	at := slices.IndexFunc(errors, func(x either) bool { return x.isSo })
	if at < 0 {
		return api.OK
	}
	return errors[at].e
}

// setError is the error of CheckSet.
func setError(x api.TapeSet) api.Errno {
	if x.Windows < 1 || x.Windows > 5 {
		return api.ErrArg
	}
	isLong := func(s string) bool { return len(s) > 8 }
	isNone := func(s string) bool { return isForeign(x, s) }
	return firstOf(
		either{len(x.Tapes) < 1 || len(x.Tapes) > 3, api.ErrMany},
		either{slices.ContainsFunc(x.Tapes, isLong), api.ErrLong},
		either{slices.ContainsFunc(x.Tapes, isNone), api.ErrForm},
	)
}

// isForeign reports whether a string has a letter that is none of a window.
func isForeign(x api.TapeSet, s string) bool {
	return strings.Trim(s, "abcde"[:x.Windows]) != ""
}

// errors are those of all functions, in their order: of all that apply the one that is named first.
func (c call) errors() []api.Errno {
	e := setError(c.x)
	if e != api.OK {
		return slices.Repeat([]api.Errno{e}, len(functions))
	}
	isNone := func(x api.TapeImpulse) bool {
		return isForeign(c.x, string([]byte{x.Window})) || x.Nth < 1 || x.Nth > 20
	}
	length := either{c.long < 0 || c.long > 20, api.ErrRange}
	var many int64
	if !length.isSo {
		many = countOf(c.x, c.long)
	}
	none := either{many == 0, api.ErrTape}
	return []api.Errno{
		e,
		firstOf(either{len(c.night) > 20, api.ErrLong}, either{isForeign(c.x, c.night), api.ErrForm}),
		e,
		tableError(c.x, c.table),
		e,
		e,
		firstOf(length, either{many > 1<<40, api.ErrOver}),
		firstOf(length, either{c.index < 0 || c.index > 1<<40 || c.index >= many, api.ErrRange}),
		firstOf(length, either{isForeign(c.x, string([]byte{c.one.Window})), api.ErrArg}, none),
		firstOf(length, either{isNone(c.one) || isNone(c.two), api.ErrArg}, none),
		firstOf(length),
	}
}

// P10.1 to P10.6: of several errors the one that is named first.
func TestFirstErrors(t *testing.T) {
	s := samplerOf(104)
	seen := make([]map[api.Errno]int, len(functions))
	for i := range seen {
		seen[i] = map[api.Errno]int{}
	}
	for range 5000 {
		c := s.someCall()
		answers := c.answers()
		for i, e := range c.errors() {
			seen[i][e]++
			if got := answers[i][len(answers[i])-1]; got != e {
				t.Fatal(functions[i], c, got, e)
			}
		}
	}
	setErrors := []api.Errno{api.OK, api.ErrArg, api.ErrMany, api.ErrLong, api.ErrForm}
	for i, more := range [][]api.Errno{
		{}, {}, {}, {api.ErrEqual, api.ErrRange, api.ErrSum}, {}, {}, {api.ErrRange}, {api.ErrRange}, {api.ErrRange, api.ErrTape}, {api.ErrRange, api.ErrTape}, {api.ErrRange},
	} {
		for _, e := range slices.Concat(setErrors, more) {
			if seen[i][e] < 20 {
				t.Error(functions[i], e, seen[i][e])
			}
		}
	}
}

// R3
func TestNilIsEmpty(t *testing.T) {
	for _, tapes := range [][]string{nil, {}} {
		if e := tape.CheckSet(api.TapeSet{Windows: 2, Tapes: tapes}); e != api.ErrMany {
			t.Error(e)
		}
	}
	for _, table := range [][]int{nil, {}} {
		if n, e := tape.CheckTable(set(2, "", ""), table); n != 0 || e != api.ErrEqual {
			t.Error(n, e)
		}
	}
}

// R4: results share no memory with arguments or one another, and what lies behind the end of an argument is left alone.
func TestSharesNoMemory(t *testing.T) {
	spare := []string{"abc", "acb", "d", "d"}
	x := api.TapeSet{Windows: 3, Tapes: spare[:2]}
	room := append(tableS(), 7, 7, 7)
	given := room[:16]
	for range 2 {
		table, e1 := tape.Table(x)
		wrong, e2 := tape.Wrong(x, 2)
		if table[0] != 4 || !slices.Equal(wrong, list(0, 1)) || e1 != api.OK || e2 != api.OK {
			t.Error(table, e1, wrong, e2)
		}
		for i := range table {
			table[i] = -7
		}
		wrong[0], wrong[1] = -7, -7
		if n, e := tape.CheckTable(x, given); n != 4 || e != api.OK {
			t.Error(n, e)
		}
		if !slices.Equal(spare, []string{"abc", "acb", "d", "d"}) || !slices.Equal(room, append(tableS(), 7, 7, 7)) {
			t.Error(spare, room)
		}
	}
}

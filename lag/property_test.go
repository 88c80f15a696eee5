package lag_test

import (
	"fmt"
	"math"
	"math/rand"
	"reflect"
	"slices"
	"testing"

	"quinella/api"
	"quinella/lag"
)

// far is how many turns the tests look at for bounds: many more than the program does.
const far = 400

// mostOf is the least sum of all cuts, as the chapter defines it.
func mostOf(curve []int64, turns int) int64 {
	if turns == 0 {
		return 0
	}
	least := int64(math.MaxInt64)
	for part := 1; part <= min(turns, len(curve)); part++ {
		least = min(least, curve[part-1]+mostOf(curve, turns-part))
	}
	return least
}

// leastOf is the least sum of all cuts for the shafts of a chain.
func leastOf(chain [][]int64, turns int) int64 {
	if len(chain) == 1 {
		return leastOfOne(chain[0], turns)
	}
	least := int64(math.MaxInt64)
	for part := range turns + 1 {
		least = min(least, leastOfOne(chain[0], part)+leastOf(chain[1:], turns-part))
	}
	return least
}

func leastOfOne(curve []int64, turns int) int64 {
	sum := int64(0)
	for ; turns > len(curve); turns -= len(curve) {
		sum += curve[len(curve)-1]
	}
	if turns > 0 {
		sum += curve[turns-1]
	}
	return sum
}

// mostList is mostOf for all numbers of turns.
func mostList(curve []int64) []int64 {
	sums := make([]int64, far+1)
	for turns := 1; turns <= far; turns++ {
		sums[turns] = math.MaxInt64
		for part := 1; part <= min(turns, len(curve)); part++ {
			sums[turns] = min(sums[turns], sums[turns-part]+curve[part-1])
		}
	}
	return sums
}

// leastList is leastOf for all numbers of turns.
func leastList(chain [][]int64) []int64 {
	sums := make([]int64, far+1)
	for i, curve := range chain {
		more := make([]int64, far+1)
		for turns := range more {
			more[turns] = leastOfOne(curve, turns)
			for part := 0; i > 0 && part <= turns; part++ {
				more[turns] = min(more[turns], leastOfOne(curve, part)+sums[turns-part])
			}
		}
		sums = more
	}
	return sums
}

func randomCurve(r *rand.Rand, top int64) []int64 {
	curve := make([]int64, 1+r.Intn(api.MaxLagTurns))
	for i := range curve {
		curve[i] = r.Int63n(top + 1)
	}
	slices.Sort(curve)
	return curve
}

func randomChain(r *rand.Rand, top int64) [][]int64 {
	var chain [][]int64
	for range 1 + r.Intn(api.MaxLagShafts) {
		chain = append(chain, randomCurve(r, top))
	}
	return chain
}

func randomTop(r *rand.Rand) int64 { return list(1, 2, 3, 5, 10, 100)[r.Intn(6)] }

// randomBounded returns a curve, and a chain that is as fast.
func randomBounded(r *rand.Rand) (curve []int64, chain [][]int64) {
	for {
		top := randomTop(r)
		curve, chain = randomCurve(r, top), randomChain(r, top)
		if _, e := lag.Wait(curve, chain); e == api.OK {
			return curve, chain
		}
	}
}

func totals(row []int64) []int64 {
	sums := list(0)
	for _, n := range row {
		sums = append(sums, sums[len(sums)-1]+n)
	}
	return sums
}

// breakOf looks at all turns one behind another.
func breakOf(most, row []int64) (int, int, bool) {
	for first := range row {
		for turns := 1; first+turns <= len(row); turns++ {
			if totals(row[first : first+turns])[turns] > most[turns] {
				return first, turns, true
			}
		}
	}
	return 0, 0, false
}

// addsSo reports whether a shaft with a curve adds so, as the chapter defines it.
func addsSo(curve, came, added []int64) bool {
	a, d := totals(came), totals(added)
	for turn := range a {
		found := false
		for u := range turn + 1 {
			found = found || d[turn] >= a[u]+leastOfOne(curve, turn-u)
		}
		if !found {
			return false
		}
	}
	return true
}

// randomCame returns a row that keeps a curve; the last turns of it bring nothing.
func randomCame(r *rand.Rand, curve []int64, turns, idle int) []int64 {
	most := mostList(curve)
	row := make([]int64, 0, turns+idle)
	for range turns {
		room := most[1]
		for k := 1; k <= len(row); k++ {
			room = min(room, most[k+1]-totals(row[len(row)-k:])[k])
		}
		if r.Intn(3) > 0 {
			room = r.Int63n(room + 1)
		}
		row = append(row, room)
	}
	return append(row, long(idle, 0)...)
}

// randomAdded returns what a shaft with a curve can add of what came.
func randomAdded(r *rand.Rand, curve, came []int64) []int64 {
	a := totals(came)
	done := int64(0)
	added := make([]int64, len(came))
	for i := range added {
		least := done
		bound := a[i+1]
		for u := range i + 2 {
			bound = min(bound, a[u]+leastOfOne(curve, i+1-u))
		}
		least = max(least, bound)
		next := least
		if r.Intn(3) == 0 {
			next += r.Int63n(a[i+1] - least + 1)
		}
		added[i] = next - done
		done = next
	}
	return added
}

// P2.2
func TestSumsAreOfAllCuts(t *testing.T) {
	r := rand.New(rand.NewSource(2))
	for range 200 {
		top := randomTop(r)
		curve, chain := randomCurve(r, top), randomChain(r, top)
		for turns := range 13 {
			if n, e := lag.Most(curve, turns); n != mostOf(curve, turns) || e != api.OK {
				t.Fatal(curve, turns, n, e)
			}
			if n, e := lag.Least(chain, turns); n != leastOf(chain, turns) || e != api.OK {
				t.Fatal(chain, turns, n, e)
			}
		}
		most, least := mostList(curve), leastList(chain)
		for _, turns := range []int{29, 61, 100, 137, 199, 200} {
			n, _ := lag.Most(curve, turns)
			m, _ := lag.Least(chain, turns)
			if n != most[turns] || m != least[turns] {
				t.Fatal(curve, chain, turns, n, m)
			}
		}
	}
}

// P2.2: a rate is what is had in the long run.
func TestRatesAreOfManyTurns(t *testing.T) {
	r := rand.New(rand.NewSource(22))
	for range 300 {
		curve := randomCurve(r, randomTop(r))
		comes, e := lag.Rate(curve, true)
		shafts, f := lag.Rate(curve, false)
		if e != api.OK || f != api.OK {
			t.Fatal(curve, e, f)
		}
		// Of each length of a curve, 60 turns are a multiple.
		most := mostList(curve)
		if (most[360]-most[300])*comes.Den != 60*comes.Num {
			t.Error(curve, comes)
		}
		if (leastOfOne(curve, 360)-leastOfOne(curve, 300))*shafts.Den != 60*shafts.Num {
			t.Error(curve, shafts)
		}
		for _, q := range []api.Ratio{comes, shafts} {
			for divisor := int64(2); divisor <= 100; divisor++ {
				if q.Num%divisor == 0 && q.Den%divisor == 0 || q.Den < 1 {
					t.Error(curve, q)
				}
			}
		}
	}
}

// P2.3
func TestBreaksAreTheFirstOnes(t *testing.T) {
	r := rand.New(rand.NewSource(3))
	seen := map[api.Errno]int{}
	for range 3000 {
		curve := randomCurve(r, 6)
		row := randomCame(r, curve, r.Intn(12), r.Intn(3))
		for range r.Intn(3) {
			if len(row) > 0 {
				row[r.Intn(len(row))] += r.Int63n(3)
			}
		}
		f, k, broken := breakOf(mostList(curve), row)
		want := api.ErrNone
		if broken {
			want = api.OK
		}
		first, turns, e := lag.Break(curve, row)
		if first != f || turns != k || e != want {
			t.Fatal(curve, row, first, turns, e, f, k)
		}
		seen[e]++
	}
	if len(seen) != 2 {
		t.Error(seen)
	}
}

// rowsUpTo returns all rows of so many turns with numbers up to top.
func rowsUpTo(turns int, top int64) [][]int64 {
	rows := [][]int64{nil}
	for range turns {
		var more [][]int64
		for _, row := range rows {
			for n := range top + 1 {
				more = append(more, append(slices.Clone(row), n))
			}
		}
		rows = more
	}
	return rows
}

// noneAbove reports whether no total of a row is above that of another one.
func noneAbove(low, high []int64) bool {
	l, h := totals(low), totals(high)
	for i := range l {
		if l[i] > h[i] {
			return false
		}
	}
	return true
}

// P2.4, P2.10: of all rows just those are right that the definition says, and Added is the least of them.
func TestWhatAShaftCanAdd(t *testing.T) {
	r := rand.New(rand.NewSource(4))
	seen := map[api.Errno]int{}
	for range 60 {
		curve := randomCurve(r, 3)
		came := rowsUpTo(5, 3)[r.Intn(1024)]
		least, e := lag.Added(curve, came)
		if e != api.OK {
			t.Fatal(curve, came, e)
		}
		for _, added := range rowsUpTo(5, 3) {
			want := api.OK
			if !noneAbove(added, came) {
				want = api.ErrSum
			} else if !addsSo(curve, came, added) {
				want = api.ErrLag
			}
			seen[want]++
			if e := lag.CheckAdded(curve, came, added); e != want {
				t.Fatal(curve, came, added, e, want)
			}
			if want == api.OK && !noneAbove(least, added) {
				t.Fatal(curve, came, added, least)
			}
		}
		if e := lag.CheckAdded(curve, came, least); e != api.OK {
			t.Fatal(curve, came, least, e)
		}
	}
	if len(seen) != 3 {
		t.Error(seen)
	}
}

// P2.5
func TestSeenAsDefined(t *testing.T) {
	r := rand.New(rand.NewSource(5))
	seen := map[api.Errno]int{}
	for range 3000 {
		curve := randomCurve(r, 3)
		came := randomCame(r, randomCurve(r, 5), r.Intn(8), r.Intn(8))
		added := randomAdded(r, curve, came)
		a, d := totals(came), totals(added)
		last := len(came)
		var waiting, late int64
		want := api.OK
		if d[last] < a[last] {
			want = api.ErrLag
		}
		for turn := 1; turn <= last && want == api.OK; turn++ {
			waiting = max(waiting, a[turn]-d[turn])
			passed := 0
			for d[turn+passed] < a[turn] {
				passed++
			}
			late = max(late, int64(passed))
		}
		seen[want]++
		if w, l, e := lag.Seen(came, added); w != waiting || l != late || e != want {
			t.Fatal(came, added, w, l, e, waiting, late)
		}
	}
	if len(seen) != 2 {
		t.Error(seen)
	}
}

// boundsOf looks at numbers of turns as far as the lists go.
func boundsOf(curve []int64, chain [][]int64) (wait, late int64, behind []int64) {
	most, least := mostList(curve), leastList(chain)
	behind = make([]int64, len(curve))
	for turns := range far - 100 {
		wait = max(wait, most[turns]-least[turns])
		passed := 0
		for least[turns+passed] < most[turns] {
			passed++
		}
		late = max(late, int64(passed))
		for i := range behind {
			behind[i] = max(behind[i], most[turns+i+1]-least[turns])
		}
	}
	return wait, late, behind
}

// P2.6, P2.7
func TestBoundsAsDefined(t *testing.T) {
	r := rand.New(rand.NewSource(6))
	seen := map[api.Errno]int{}
	for range 800 {
		top := randomTop(r)
		curve, chain := randomCurve(r, top), randomChain(r, top)
		comes, _ := lag.Rate(curve, true)
		want := api.OK
		for _, shaft := range chain {
			if q, _ := lag.Rate(shaft, false); comes.Num*q.Den > q.Num*comes.Den {
				want = api.ErrLag
			}
		}
		seen[want]++
		wait, e1 := lag.Wait(curve, chain)
		late, e2 := lag.Late(curve, chain)
		behind, e3 := lag.Behind(curve, chain)
		if e1 != want || e2 != want || e3 != want {
			t.Fatal(curve, chain, e1, e2, e3, want)
		}
		if want != api.OK {
			continue
		}
		if w, l, b := boundsOf(curve, chain); wait != w || late != l || !slices.Equal(behind, b) {
			t.Fatal(curve, chain, wait, late, behind, w, l, b)
		}
	}
	if len(seen) != 2 {
		t.Error(seen)
	}
}

// The worst that was found for these is after many turns, and of equal rates.
func TestBoundsThatComeLate(t *testing.T) {
	for _, x := range []struct {
		curve []int64
		chain [][]int64
	}{
		{list(15, 34, 54, 64, 67, 89), chain(list(37, 39, 41, 44, 46, 99), list(8, 11, 30, 37, 44, 81), list(9, 26, 42, 47, 47, 100))},
		{list(66, 68, 71, 88, 96, 98), chain(list(8, 8, 22, 24, 82), list(9, 10, 16, 92), list(2, 90, 93))},
		{list(4, 7, 7, 7, 23), chain(list(2, 2, 4, 4, 9), list(0, 0, 0, 0, 0, 38), list(1, 2, 3, 3, 27))},
		{list(5, 5, 5, 5, 5, 100), chain(list(0, 0, 0, 0, 0, 6), list(0, 0, 0, 0, 5), list(0, 0, 0, 4))},
	} {
		wait, e1 := lag.Wait(x.curve, x.chain)
		late, e2 := lag.Late(x.curve, x.chain)
		behind, e3 := lag.Behind(x.curve, x.chain)
		w, l, b := boundsOf(x.curve, x.chain)
		if wait != w || late != l || !slices.Equal(behind, b) || e1 != api.OK || e2 != api.OK || e3 != api.OK {
			t.Error(x.curve, x.chain, wait, late, behind, w, l, b)
		}
	}
}

// P2.8, P2.12
func TestBoundsHoldAndAreReached(t *testing.T) {
	r := rand.New(rand.NewSource(8))
	for range 400 {
		curve, chain := randomBounded(r)
		wait, _ := lag.Wait(curve, chain)
		late, _ := lag.Late(curve, chain)
		behind, _ := lag.Behind(curve, chain)
		goesOn := mostList(behind)

		came := randomCame(r, curve, 40, 20)
		added := came
		for _, shaft := range chain {
			before := added
			added = randomAdded(r, shaft, before)
			if e := lag.CheckAdded(shaft, before, added); e != api.OK {
				t.Fatal(shaft, before, added, e)
			}
		}
		if w, l, e := lag.Seen(came, added); w > wait || l > late || e != api.OK {
			t.Fatal(curve, chain, came, added, w, l, e)
		}

		most, _ := lag.Came(curve, 40)
		most = append(most, long(20, 0)...)
		least := most
		for _, shaft := range chain {
			least, _ = lag.Added(shaft, least)
		}
		if w, l, e := lag.Seen(most, least); w != wait || l != late || e != api.OK {
			t.Fatal(curve, chain, w, l, e, wait, late)
		}

		for _, row := range [][]int64{added, least} {
			if first, turns, broken := breakOf(goesOn, row); broken {
				t.Fatal(curve, chain, row, behind, first, turns)
			}
			if _, _, e := lag.Break(behind, row); lag.CheckCurve(behind) == api.OK && e != api.ErrNone {
				t.Fatal(curve, chain, row, behind, e)
			}
		}
	}
}

// P2.9
func TestTheMostIsTight(t *testing.T) {
	r := rand.New(rand.NewSource(9))
	for range 40 {
		curve := randomCurve(r, randomTop(r))
		most := make([]int64, 61)
		for turns := range most {
			most[turns], _ = lag.Most(curve, turns)
		}
		for k := range most {
			for j := range k + 1 {
				if most[k] > most[j]+most[k-j] {
					t.Fatal(curve, j, k)
				}
			}
		}
		row, e := lag.Came(curve, 60)
		if _, _, f := lag.Break(curve, row); len(row) != 60 || e != api.OK || f != api.ErrNone {
			t.Fatal(curve, row, e, f)
		}
		if other := randomCame(r, curve, 60, 0); !noneAbove(other, row) {
			t.Fatal(curve, row, other)
		}
	}
	for _, curve := range [][]int64{curveA, list(1), list(2, 2), list(1, 2, 2, 2, 2, 3), list(2, 3, 9, 9)} {
		row, _ := lag.Came(curve, 6)
		for _, other := range rowsUpTo(6, 3) {
			if _, _, e := lag.Break(curve, other); e == api.ErrNone && !noneAbove(other, row) {
				t.Fatal(curve, row, other)
			}
		}
	}
}

// P2.11
func TestChainsAddAsOne(t *testing.T) {
	r := rand.New(rand.NewSource(11))
	together := 0
	for range 300 {
		curve, chain := randomBounded(r)
		came := randomCame(r, randomCurve(r, 10), 15, 5)
		a, added := totals(came), came
		for _, shaft := range chain {
			added, _ = lag.Added(shaft, added)
		}
		for turn, n := range totals(added) {
			want := int64(math.MaxInt64)
			for u := range turn + 1 {
				least, _ := lag.Least(chain, turn-u)
				want = min(want, a[u]+least)
			}
			if n != want {
				t.Fatal(chain, came, added, turn, want)
			}
		}
		wait, _ := lag.Wait(curve, chain)
		late, _ := lag.Late(curve, chain)
		for _, order := range orders(chain) {
			w, _ := lag.Wait(curve, order)
			l, _ := lag.Late(curve, order)
			n, _ := lag.Least(order, 23)
			m, _ := lag.Least(chain, 23)
			if w != wait || l != late || n != m {
				t.Fatal(curve, order, w, l, n, wait, late, m)
			}
		}
		if len(chain) == 1 {
			continue
		}
		behind, _ := lag.Behind(curve, chain[:1])
		first, _ := lag.Late(curve, chain[:1])
		if others, e := lag.Late(behind, chain[1:]); e == api.OK {
			together++
			if late > first+others {
				t.Fatal(curve, chain, late, first, others)
			}
		}
	}
	if together == 0 {
		t.Error("no chain was looked at in two")
	}
}

// orders returns a chain in all orders.
func orders(chain [][]int64) [][][]int64 {
	if len(chain) == 0 {
		return [][][]int64{nil}
	}
	var all [][][]int64
	for i, shaft := range chain {
		for _, o := range orders(slices.Delete(slices.Clone(chain), i, i+1)) {
			all = append(all, append(o, shaft))
		}
	}
	return all
}

// P2.13
func TestMoreIsNotBetter(t *testing.T) {
	r := rand.New(rand.NewSource(13))
	bounded := 0
	for range 1000 {
		curve, chain := randomBounded(r)
		more := slices.Clone(curve)
		for i := range more {
			more[i] = min(api.MaxLagMany, more[i]+r.Int63n(2))
		}
		slices.Sort(more)
		slower := slices.Clone(chain)
		i := r.Intn(len(chain))
		slower[i] = slices.Clone(chain[i])
		for k := range slower[i] {
			slower[i][k] = max(0, slower[i][k]-r.Int63n(2))
		}
		slices.Sort(slower[i])
		wait, _ := lag.Wait(curve, chain)
		late, _ := lag.Late(curve, chain)
		notLess := func(curve []int64, chain [][]int64) {
			w, e := lag.Wait(curve, chain)
			l, f := lag.Late(curve, chain)
			if e == api.OK {
				bounded++
			}
			if e != f || e == api.OK && (w < wait || l < late) || e != api.OK && e != api.ErrLag {
				t.Fatal(curve, chain, w, l, e, f, wait, late)
			}
		}
		notLess(more, chain)
		notLess(curve, slower)
		if len(chain) < api.MaxLagShafts {
			notLess(curve, append(slices.Clone(chain), randomCurve(r, 10)))
		}
	}
	if bounded == 0 {
		t.Error("nothing was bounded")
	}
}

// P2.14
func TestTimes(t *testing.T) {
	r := rand.New(rand.NewSource(14))
	for range 300 {
		curve, chain := randomBounded(r)
		top := slices.Max(slices.Concat(append(slices.Clone(chain), curve)...))
		times := 1 + r.Int63n(api.MaxLagMany/max(1, top))
		multiply := func(numbers []int64) []int64 {
			many := slices.Clone(numbers)
			for i := range many {
				many[i] *= times
			}
			return many
		}
		var many [][]int64
		for _, shaft := range chain {
			many = append(many, multiply(shaft))
		}
		wait, _ := lag.Wait(curve, chain)
		late, _ := lag.Late(curve, chain)
		w, e := lag.Wait(multiply(curve), many)
		l, f := lag.Late(multiply(curve), many)
		if w != times*wait || l != late || e != api.OK || f != api.OK {
			t.Fatal(curve, chain, times, w, l, e, f, wait, late)
		}
	}
}

// everything calls all functions, and returns what they do. With an error every other result has to be its zero value.
func everything(t *testing.T, curve, came, added []int64, chain [][]int64, turns int) []any {
	var all []any
	keep := func(e api.Errno, results ...any) {
		all = append(append(all, e), results...)
		for _, x := range results {
			if v := reflect.ValueOf(x); e != api.OK && !v.IsZero() && (v.Kind() != reflect.Slice || v.Len() > 0) {
				t.Error(curve, came, added, chain, turns, e, x)
			}
		}
	}
	keep(lag.CheckCurve(curve))
	keep(lag.CheckAdded(curve, came, added))
	most, e := lag.Most(curve, turns)
	keep(e, most)
	least, e := lag.Least(chain, turns)
	keep(e, least)
	comes, e := lag.Rate(curve, true)
	keep(e, comes)
	shafts, e := lag.Rate(curve, false)
	keep(e, shafts)
	first, long, e := lag.Break(curve, came)
	keep(e, first, long)
	row, e := lag.Came(curve, turns)
	keep(e, row)
	row, e = lag.Added(curve, came)
	keep(e, row)
	waiting, late, e := lag.Seen(came, added)
	keep(e, waiting, late)
	wait, e := lag.Wait(curve, chain)
	keep(e, wait)
	late, e = lag.Late(curve, chain)
	keep(e, late)
	behind, e := lag.Behind(curve, chain)
	keep(e, behind)
	return all
}

func cloneAll(lists [][]int64) [][]int64 {
	var all [][]int64
	for _, l := range lists {
		all = append(all, slices.Clone(l))
	}
	return all
}

// P1, R2, R4, R5, R9, R10
func TestAnyArguments(t *testing.T) {
	r := rand.New(rand.NewSource(1))
	odd := list(0, 1, 2, 3, 100, 101, -1, 10000, 10001, math.MaxInt64, math.MinInt64)
	numbers := func() []int64 {
		numbers := make([]int64, r.Intn(8))
		for i := range numbers {
			numbers[i] = odd[r.Intn(1+r.Intn(len(odd)))]
		}
		if r.Intn(2) == 0 {
			slices.Sort(numbers)
		}
		return numbers
	}
	for range 5000 {
		curve, came, added, turns := numbers(), numbers(), numbers(), int(odd[r.Intn(len(odd))])
		chain := [][]int64{numbers(), numbers(), numbers(), numbers()}[:r.Intn(5)]
		sameCurve, sameCame, sameAdded, sameChain := slices.Clone(curve), slices.Clone(came), slices.Clone(added), cloneAll(chain)
		one := everything(t, curve, came, added, chain, turns)
		two := everything(t, sameCurve, sameCame, sameAdded, sameChain, turns)
		if !reflect.DeepEqual(one, two) {
			t.Fatal(curve, came, added, chain, turns, one, two)
		}
		if !slices.Equal(curve, sameCurve) || !slices.Equal(came, sameCame) || !slices.Equal(added, sameAdded) || fmt.Sprint(chain) != fmt.Sprint(sameChain) {
			t.Fatal("an argument is changed", sameCurve, sameCame, sameAdded, sameChain)
		}
	}
}

// R3
func TestNilIsEmpty(t *testing.T) {
	for _, curve := range [][]int64{nil, curveA} {
		for _, came := range [][]int64{nil, rowR} {
			one := everything(t, curve, came, nil, nil, 0)
			two := everything(t, append([]int64{}, curve...), append([]int64{}, came...), list(), chain(), 0)
			if fmt.Sprint(one) != fmt.Sprint(two) {
				t.Error(curve, came, one, two)
			}
		}
	}
}

// R4
func TestResultsShareNoMemory(t *testing.T) {
	curve, came, shafts := slices.Clone(curveA), slices.Clone(rowR), chain(list(5), list(9))
	spoil := func(l []int64, e api.Errno) {
		if e != api.OK || len(l) == 0 {
			t.Error(l, e)
		}
		for i := range l[:cap(l)] {
			l[:cap(l)][i] = -7
		}
	}
	for range 2 {
		spoil(lag.Came(curve, 6))
		spoil(lag.Added(shafts[0], came))
		spoil(lag.Behind(curve, shafts))
		if !slices.Equal(curve, curveA) || !slices.Equal(came, rowR) || shafts[0][0] != 5 || shafts[1][0] != 9 {
			t.Error(curve, came, shafts)
		}
	}
}

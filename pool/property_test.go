package pool_test

import (
	"fmt"
	"math"
	"math/rand"
	"reflect"
	"slices"
	"testing"

	"quinella/api"
	"quinella/pool"
)

func racing(b api.PoolBook) []int {
	var runners []int
	for r := range b.Runners {
		if !slices.Contains(b.Scratched, r) {
			runners = append(runners, r)
		}
	}
	return runners
}

// allFinishes returns all finishes of some runners.
func allFinishes(runners []int) [][][]int {
	if len(runners) == 0 {
		return [][][]int{nil}
	}
	var all [][][]int
	for mask := 1; mask < 1<<len(runners); mask++ {
		var group, rest []int
		for i, r := range runners {
			if mask>>i&1 == 1 {
				group = append(group, r)
			} else {
				rest = append(rest, r)
			}
		}
		for _, f := range allFinishes(rest) {
			all = append(all, append(finish(group), f...))
		}
	}
	return all
}

func randomFinish(r *rand.Rand, b api.PoolBook) [][]int {
	groups := make([][]int, b.Runners)
	for _, runner := range racing(b) {
		at := r.Intn(len(groups))
		groups[at] = append(groups[at], runner)
	}
	return slices.DeleteFunc(groups, func(g []int) bool { return len(g) == 0 })
}

// randomBook returns a valid book of a Kind.
func randomBook(r *rand.Rand, kind, runners int) api.PoolBook {
	steps := []int64{1, 1, 2, 5, 7, 10, 50, 100}
	b := api.PoolBook{
		Kind: kind, Runners: runners, Favourite: r.Intn(2) == 0,
		Carried: r.Int63n(2) * r.Int63n(5000), Duty: r.Int63n(2) * r.Int63n(501), Step: steps[r.Intn(len(steps))],
	}
	for range r.Intn(2 * runners * runners) {
		two := r.Perm(runners)[:2]
		units := 1 + r.Int63n([]int64{3, 10, 1000}[r.Intn(3)])
		switch kind {
		case api.PoolWin, api.PoolPlace:
			b.Bets = append(b.Bets, bet(two[0], -1, units))
		case api.PoolPair:
			b.Bets = append(b.Bets, bet(two[0], two[1], units))
		case api.PoolBoth:
			b.Bets = append(b.Bets, bet(min(two[0], two[1]), max(two[0], two[1]), units))
		}
	}
	if len(b.Bets) > api.MaxPoolBets {
		b.Bets = b.Bets[:api.MaxPoolBets]
	}
	if r.Intn(2) == 0 {
		b.Scratched = r.Perm(runners)[:r.Intn(runners-1)]
		slices.Sort(b.Scratched)
	}
	return b
}

func anyBook(r *rand.Rand) api.PoolBook { return randomBook(r, r.Intn(4), 2+r.Intn(7)) }

// aheadOf returns how many runners came in before one.
func aheadOf(f [][]int, runner int) int {
	ahead := 0
	for _, group := range f {
		if slices.Contains(group, runner) {
			return ahead
		}
		ahead += len(group)
	}
	return math.MaxInt
}

// winsIn reports whether a First with a Second is a winner of a finish. At most one runner is ahead of those that are placed.
func winsIn(kind int, f [][]int, first, second int) bool {
	one, two := aheadOf(f, first), aheadOf(f, second)
	switch kind {
	case api.PoolWin:
		return second == -1 && one == 0
	case api.PoolPlace:
		return second == -1 && one <= 1
	case api.PoolPair:
		return first != second && one == 0 && two <= 1
	}
	return first < second && min(one, two) == 0 && max(one, two) <= 1
}

// winnersOf tries all that could be a winner, in lexicographic order.
func winnersOf(b api.PoolBook, f [][]int) [][2]int {
	var list [][2]int
	for first := range b.Runners {
		for second := -1; second < b.Runners; second++ {
			if winsIn(b.Kind, f, first, second) {
				list = append(list, [2]int{first, second})
			}
		}
	}
	return list
}

func favouriteOf(b api.PoolBook) int {
	best, most := -1, int64(-1)
	for _, runner := range racing(b) {
		units := int64(0)
		for _, x := range b.Bets {
			if x.First == runner && !slices.Contains(b.Scratched, x.Second) {
				units += x.Units
			}
		}
		if units > most {
			best, most = runner, units
		}
	}
	return best
}

// placeOf returns the First and the Second that a bet is on; ok is false if it is given back.
func placeOf(b api.PoolBook, x api.PoolBet) (place [2]int, ok bool) {
	if !slices.Contains(b.Scratched, x.First) && !slices.Contains(b.Scratched, x.Second) {
		return [2]int{x.First, x.Second}, true
	}
	if b.Favourite && b.Kind <= api.PoolPlace {
		return [2]int{favouriteOf(b), -1}, true
	}
	return [2]int{}, false
}

// accountOf is the account, the dividends and what is paid for each bet, as the chapter defines them.
func accountOf(b api.PoolBook, f [][]int) (a api.PoolAccount, all []api.PoolDividend, pays []int64) {
	a.In = b.Carried
	for _, x := range b.Bets {
		a.In += 100 * x.Units
		if _, ok := placeOf(b, x); !ok {
			a.Back += 100 * x.Units
		}
	}
	a.Duty = (a.In - a.Back - b.Carried) * b.Duty / 1000
	net := a.In - a.Back - a.Duty
	var backed [][2]int
	var units []int64
	for _, w := range winnersOf(b, f) {
		sum := int64(0)
		for _, x := range b.Bets {
			if place, ok := placeOf(b, x); ok && place == w {
				sum += x.Units
			}
		}
		if sum > 0 {
			backed, units = append(backed, w), append(units, sum)
		}
	}
	for i, w := range backed {
		share := net / int64(len(backed))
		pence := share / units[i]
		for pence%b.Step != 0 {
			pence--
		}
		all = append(all, dividend(w[0], w[1], pence))
		a.Paid += pence * units[i]
	}
	if len(backed) == 0 {
		a.Over = net
	} else {
		a.Kept = net - a.Paid
	}
	for _, x := range b.Bets {
		pays = append(pays, payOf(b, all, x))
	}
	return a, all, pays
}

func payOf(b api.PoolBook, all []api.PoolDividend, x api.PoolBet) int64 {
	place, ok := placeOf(b, x)
	if !ok {
		return 100 * x.Units
	}
	return penceOf(all, place[0], place[1]) * x.Units
}

// penceOf returns the dividend of a winner, or 0.
func penceOf(all []api.PoolDividend, first, second int) int64 {
	for _, d := range all {
		if d.First == first && d.Second == second {
			return d.Pence
		}
	}
	return 0
}

// outcome is what a book pays for a finish.
type outcome struct {
	account   api.PoolAccount
	dividends []api.PoolDividend
	pays      []int64
}

// outcomeOf asks the program for it.
func outcomeOf(t *testing.T, b api.PoolBook, f [][]int) outcome {
	t.Helper()
	var o outcome
	var e api.Errno
	if o.account, e = pool.Account(b, f); e != api.OK {
		t.Fatal(b, f, e)
	}
	if o.dividends, e = pool.Dividends(b, f); e != api.OK && e != api.ErrPool || (e == api.OK) != (len(o.dividends) > 0) {
		t.Fatal(b, f, e)
	}
	for i := range b.Bets {
		pence, e := pool.Pay(b, f, i)
		if e != api.OK {
			t.Fatal(b, f, i, e)
		}
		o.pays = append(o.pays, pence)
	}
	return o
}

func paidFor(all []api.PoolDividend, w [2]int) int64 { return penceOf(all, w[0], w[1]) }

// P3.4
func TestFinishesAreCheckedAsDefined(t *testing.T) {
	lists := [][]int{nil}
	for at := 0; len(lists[at]) < 3; at++ {
		for r := range 3 {
			lists = append(lists, append(slices.Clone(lists[at]), r))
		}
	}
	right := 0
	check := func(f [][]int) {
		want := api.OK
		for r := range 3 {
			in := 0
			for _, group := range f {
				if slices.Contains(group, r) {
					in++
				}
			}
			if in != 1 {
				want = api.ErrHeat
			}
		}
		for _, group := range f {
			if len(group) == 0 || !slices.IsSorted(group) || len(slices.Compact(slices.Clone(group))) < len(group) {
				want = api.ErrHeat
			}
		}
		if want == api.OK {
			right++
		}
		if e := pool.CheckFinish(bookB(), f); e != want {
			t.Fatal(f, e)
		}
	}
	for _, one := range lists {
		check(finish(one))
		for _, two := range lists {
			check(finish(one, two))
			for _, three := range lists {
				check(finish(one, two, three))
			}
		}
	}
	if right != 13 {
		t.Error(right)
	}
}

// P3.4
func TestWinnersAsDefined(t *testing.T) {
	for kind := api.PoolWin; kind <= api.PoolBoth; kind++ {
		for _, scratched := range [][]int{nil, list(0), list(2, 5), list(1, 2, 3, 4)} {
			b := api.PoolBook{Kind: kind, Runners: 6, Step: 1, Scratched: scratched}
			for _, f := range allFinishes(racing(b)) {
				if e := pool.CheckFinish(b, f); e != api.OK {
					t.Fatal(b, f, e)
				}
				if winners, e := pool.Winners(b, f); !slices.Equal(winners, winnersOf(b, f)) || e != api.OK {
					t.Fatal(b, f, winners, e)
				}
			}
		}
	}
}

// P3.3, P3.5, P3.6, P3.7
func TestPaymentsAsDefined(t *testing.T) {
	r := rand.New(rand.NewSource(3))
	none := 0
	for range 5000 {
		b := anyBook(r)
		f := randomFinish(r, b)
		if runner, e := pool.Favourite(b); runner != favouriteOf(b) || e != api.OK {
			t.Fatal(b, runner, e)
		}
		o := outcomeOf(t, b, f)
		a, all, pays := accountOf(b, f)
		if o.account != a || !slices.Equal(o.dividends, all) || !slices.Equal(o.pays, pays) {
			t.Fatal(b, f, o, a, all, pays)
		}
		if len(all) == 0 {
			none++
		}
	}
	if none == 0 || none == 5000 {
		t.Error(none)
	}
}

// P3.8
func TestSpreadsAreOfAllFinishes(t *testing.T) {
	r := rand.New(rand.NewSource(8))
	check := func(b api.PoolBook) {
		lo, hi := int64(math.MaxInt64), int64(0)
		for _, f := range allFinishes(racing(b)) {
			a, _, _ := accountOf(b, f)
			lo, hi = min(lo, a.Paid), max(hi, a.Paid)
		}
		if s, e := pool.Spread(b); s != (api.Range{Lo: lo, Hi: hi}) || e != api.OK {
			t.Fatal(b, s, e, lo, hi)
		}
	}
	for range 300 {
		check(randomBook(r, r.Intn(4), 2+r.Intn(3)))
	}
	for range 50 {
		check(randomBook(r, r.Intn(4), 5))
	}
	for kind := api.PoolWin; kind <= api.PoolBoth; kind++ {
		b := randomBook(r, kind, 8)
		for len(b.Bets) < 20 || len(racing(b)) > 6 || len(racing(b)) < 5 {
			b = randomBook(r, kind, 8)
		}
		b.Bets = b.Bets[:20]
		check(b)
		for len(b.Bets) < 10 || len(racing(b)) < 5 {
			b = randomBook(r, kind, 5)
		}
		check(b)
	}
}

// P3.9, P3.11
func TestPaymentsAreBalanced(t *testing.T) {
	r := rand.New(rand.NewSource(9))
	for range 5000 {
		b := anyBook(r)
		f := randomFinish(r, b)
		o := outcomeOf(t, b, f)
		a := o.account
		if a.In != a.Back+a.Duty+a.Paid+a.Kept+a.Over || min(a.In, a.Back, a.Duty, a.Paid, a.Kept, a.Over) < 0 {
			t.Fatal(b, f, a)
		}
		sum := int64(0)
		for _, pence := range o.pays {
			sum += pence
		}
		if sum != a.Back+a.Paid {
			t.Fatal(b, f, a, o.pays)
		}
		if len(o.dividends) == 0 && (a.Paid != 0 || a.Kept != 0) || len(o.dividends) > 0 && a.Over != 0 {
			t.Fatal(b, f, a)
		}
		for _, d := range o.dividends {
			units := int64(0)
			for _, x := range b.Bets {
				if place, ok := placeOf(b, x); ok && place == [2]int{d.First, d.Second} {
					units += x.Units
				}
			}
			share := (a.In - a.Back - a.Duty) / int64(len(o.dividends))
			if d.Pence < 0 || d.Pence%b.Step != 0 || d.Pence*units > share || (d.Pence+b.Step)*units <= share {
				t.Fatal(b, f, d, units, share)
			}
		}
	}
}

// scratchAll scratches runners one after another.
func scratchAll(t *testing.T, b api.PoolBook, runners []int) api.PoolBook {
	t.Helper()
	for _, runner := range runners {
		var e api.Errno
		if b, e = pool.Scratch(b, runner); e != api.OK {
			t.Fatal(b, runner, e)
		}
	}
	return b
}

// P3.2, P3.10
func TestScratchedInAnyOrder(t *testing.T) {
	r := rand.New(rand.NewSource(10))
	for range 1000 {
		b := anyBook(r)
		b.Scratched = nil
		some := r.Perm(b.Runners)[:r.Intn(b.Runners-1)]
		one := scratchAll(t, b, some)
		r.Shuffle(len(some), func(i, k int) { some[i], some[k] = some[k], some[i] })
		two := scratchAll(t, b, some)
		slices.Sort(some)
		b.Scratched = some
		if !reflect.DeepEqual(one, two) || fmt.Sprint(one) != fmt.Sprint(b) {
			t.Fatal(one, two, b)
		}
		f := randomFinish(r, b)
		if !reflect.DeepEqual(outcomeOf(t, one, f), outcomeOf(t, two, f)) {
			t.Fatal(one, two, f)
		}
	}
}

// joined returns a book in which two bets on the same are made one, if there are two that are not too great for it.
func joined(b api.PoolBook) (api.PoolBook, bool) {
	for k, two := range b.Bets {
		for i, one := range b.Bets[:k] {
			at, ok := placeOf(b, one)
			place, also := placeOf(b, two)
			if ok && also && at == place && one.Units+two.Units <= api.MaxPoolUnits {
				b.Bets = slices.Clone(b.Bets)
				b.Bets[i] = bet(at[0], at[1], one.Units+two.Units)
				b.Bets = slices.Delete(b.Bets, k, k+1)
				return b, true
			}
		}
	}
	return b, false
}

// P3.12
func TestBetsAreJoined(t *testing.T) {
	r := rand.New(rand.NewSource(12))
	times := 0
	for range 3000 {
		b := anyBook(r)
		f := randomFinish(r, b)
		o := outcomeOf(t, b, f)
		same := func(other api.PoolBook) {
			p := outcomeOf(t, other, f)
			if p.account != o.account || !slices.Equal(p.dividends, o.dividends) {
				t.Fatal(b, other, f, o, p)
			}
		}
		if one, ok := joined(b); ok {
			same(one)
			times++
		}
		mixed := b
		mixed.Bets = slices.Clone(b.Bets)
		r.Shuffle(len(mixed.Bets), func(i, k int) { mixed.Bets[i], mixed.Bets[k] = mixed.Bets[k], mixed.Bets[i] })
		same(mixed)
	}
	if times < 1000 {
		t.Error(times)
	}
}

// P3.13
func TestMoreIsCarriedOrOwed(t *testing.T) {
	r := rand.New(rand.NewSource(13))
	for range 3000 {
		b := anyBook(r)
		f := randomFinish(r, b)
		carried, owed, fine := b, b, b
		carried.Carried += 1 + r.Int63n(10000)
		owed.Duty = min(api.MaxPoolDuty, owed.Duty+1+r.Int63n(100))
		fine.Step = 1
		o, rich, poor := outcomeOf(t, b, f), outcomeOf(t, carried, f), outcomeOf(t, owed, f)
		if len(o.dividends) != len(rich.dividends) || len(o.dividends) != len(poor.dividends) {
			t.Fatal(b, f, o, rich, poor)
		}
		for i, d := range o.dividends {
			if rich.dividends[i].Pence < d.Pence || poor.dividends[i].Pence > d.Pence {
				t.Fatal(b, f, o, rich, poor)
			}
		}
		if outcomeOf(t, fine, f).account.Paid < o.account.Paid {
			t.Fatal(b, f, o)
		}
	}
}

// P3.14
func TestMoreComeInTogether(t *testing.T) {
	r := rand.New(rand.NewSource(14))
	times := 0
	for range 5000 {
		b := anyBook(r)
		f := randomFinish(r, b)
		from := r.Intn(len(f))
		to := from + r.Intn(len(f)-from)
		group := slices.Concat(f[from : to+1]...)
		slices.Sort(group)
		together := append(append(slices.Clone(f[:from]), group), f[to+1:]...)
		o, p := outcomeOf(t, b, f), outcomeOf(t, b, together)
		if len(p.dividends) < len(o.dividends) {
			t.Fatal(b, f, together, o, p)
		}
		if len(p.dividends) > len(o.dividends) && len(o.dividends) > 0 {
			times++
		}
		for _, d := range o.dividends {
			if penceOf(p.dividends, d.First, d.Second) > d.Pence {
				t.Fatal(b, f, together, o, p)
			}
		}
	}
	if times < 500 {
		t.Error(times)
	}
}

// renamed returns a book and a finish with other names of the runners.
func renamed(b api.PoolBook, f [][]int, name []int) (api.PoolBook, [][]int) {
	rename := func(runners []int) []int {
		var l []int
		for _, runner := range runners {
			l = append(l, name[runner])
		}
		slices.Sort(l)
		return l
	}
	b.Bets = slices.Clone(b.Bets)
	for i, x := range b.Bets {
		w := renamedWinner(b.Kind, [2]int{x.First, x.Second}, name)
		b.Bets[i] = bet(w[0], w[1], x.Units)
	}
	b.Scratched = rename(b.Scratched)
	var groups [][]int
	for _, group := range f {
		groups = append(groups, rename(group))
	}
	return b, groups
}

func renamedWinner(kind int, w [2]int, name []int) [2]int {
	w[0] = name[w[0]]
	if w[1] >= 0 {
		w[1] = name[w[1]]
	}
	if kind == api.PoolBoth && w[1] < w[0] {
		w[0], w[1] = w[1], w[0]
	}
	return w
}

// P3.15
func TestRunnersCanBeNamedOtherwise(t *testing.T) {
	r := rand.New(rand.NewSource(15))
	for range 3000 {
		b := anyBook(r)
		if len(b.Scratched) > 0 {
			b.Favourite = false
		}
		f := randomFinish(r, b)
		name := r.Perm(b.Runners)
		other, g := renamed(b, f, name)
		o, p := outcomeOf(t, b, f), outcomeOf(t, other, g)
		if o.account != p.account || !slices.Equal(o.pays, p.pays) || len(o.dividends) != len(p.dividends) {
			t.Fatal(b, f, name, o, p)
		}
		for _, d := range o.dividends {
			if w := renamedWinner(b.Kind, [2]int{d.First, d.Second}, name); paidFor(p.dividends, w) != d.Pence {
				t.Fatal(b, f, name, o, p)
			}
		}
	}
}

// P3.16
func TestNobodyHasBetOnTheLastOne(t *testing.T) {
	r := rand.New(rand.NewSource(16))
	times, scratched := 0, 0
	for times < 2000 {
		b := anyBook(r)
		runners := racing(b)
		last := runners[r.Intn(len(runners))]
		b.Bets = slices.DeleteFunc(b.Bets, func(x api.PoolBet) bool { return x.First == last || x.Second == last })
		runner, e := pool.Favourite(b)
		if e != api.OK {
			t.Fatal(b, e)
		}
		if runner == last || len(runners) == 2 {
			continue
		}
		without := scratchAll(t, b, list(last))
		f := randomFinish(r, without)
		with := append(slices.Clone(f), list(last))
		winners, _ := pool.Winners(b, with)
		if slices.ContainsFunc(winners, func(w [2]int) bool { return w[0] == last || w[1] == last }) {
			continue
		}
		times++
		if len(b.Scratched) > 0 && b.Favourite && b.Kind <= api.PoolPlace {
			scratched++
		}
		if o, p := outcomeOf(t, b, with), outcomeOf(t, without, f); !reflect.DeepEqual(o, p) {
			t.Fatal(b, with, o, p)
		}
	}
	if scratched < 100 {
		t.Error(scratched)
	}
}

// everything calls all functions, and returns what they do. With an error every other result has to be its zero value.
func everything(t *testing.T, b api.PoolBook, f [][]int, number int) []any {
	var all []any
	keep := func(e api.Errno, results ...any) {
		all = append(append(all, e), results...)
		for _, x := range results {
			if v := reflect.ValueOf(x); e != api.OK && !v.IsZero() && (v.Kind() != reflect.Slice || v.Len() > 0) {
				t.Error(b, f, number, e, x)
			}
		}
	}
	keep(pool.CheckBook(b))
	keep(pool.CheckFinish(b, f))
	scratched, e := pool.Scratch(b, number)
	keep(e, scratched)
	favourite, e := pool.Favourite(b)
	keep(e, favourite)
	winners, e := pool.Winners(b, f)
	keep(e, winners)
	dividends, e := pool.Dividends(b, f)
	keep(e, dividends)
	account, e := pool.Account(b, f)
	keep(e, account)
	pence, e := pool.Pay(b, f, number)
	keep(e, pence)
	spread, e := pool.Spread(b)
	keep(e, spread)
	return all
}

// cloned returns a book and groups with memory of their own.
func cloned(b api.PoolBook, f [][]int) (api.PoolBook, [][]int) {
	b.Bets, b.Scratched, f = slices.Clone(b.Bets), slices.Clone(b.Scratched), slices.Clone(f)
	for i, group := range f {
		f[i] = slices.Clone(group)
	}
	return b, f
}

// whole is a book and groups with all that is behind the ends of their lists.
func whole(b api.PoolBook, f [][]int) string {
	b.Bets, b.Scratched = b.Bets[:cap(b.Bets)], b.Scratched[:cap(b.Scratched)]
	var groups [][]int
	for _, group := range f[:cap(f)] {
		groups = append(groups, group[:cap(group)])
	}
	return fmt.Sprint(b, groups)
}

// P1, R2, R4, R5, R9, R10
func TestAnyArguments(t *testing.T) {
	r := rand.New(rand.NewSource(1))
	odd := list(0, 1, 2, 3, 4, 7, 8, 9, -1, -2, 100, 101, 500, 501, 1000, 1001, 1000000, 1000001, math.MaxInt, math.MinInt)
	number := func() int { return odd[r.Intn(1+r.Intn(len(odd)))] }
	numbers := func() []int {
		l := make([]int, r.Intn(4), 9)
		for i := range l {
			l[i] = number()
		}
		return l
	}
	for range 4000 {
		b := anyBook(r)
		f := randomFinish(r, b)
		for range r.Intn(3) {
			switch r.Intn(9) {
			case 0:
				b.Kind = number()
			case 1:
				b.Runners = number()
			case 2:
				b.Scratched = numbers()
			case 3:
				b.Bets = append(b.Bets, bet(number(), number(), int64(number())))
			case 4:
				b.Carried = int64(number())
			case 5:
				b.Duty = int64(number())
			case 6:
				b.Step = int64(number())
			case 7:
				f[r.Intn(len(f))] = numbers()
			case 8:
				f = append(f, numbers())
			}
		}
		n := number()
		c, g := cloned(b, f)
		before := whole(b, f)
		one := everything(t, b, f, n)
		two := everything(t, c, g, n)
		if !reflect.DeepEqual(one, two) {
			t.Fatal(b, f, n, one, two)
		}
		if after := whole(b, f); after != before {
			t.Fatal("an argument is changed", before, after)
		}
	}
}

// R4
func TestArgumentsStay(t *testing.T) {
	r := rand.New(rand.NewSource(4))
	for range 500 {
		b := anyBook(r)
		f := randomFinish(r, b)
		// All lists are followed by memory of somebody else.
		b.Bets = append(b.Bets, bet(7, 7, 7))[:len(b.Bets)]
		b.Scratched = append(b.Scratched, 7, 7, 7)[:len(b.Scratched)]
		for i, group := range f {
			f[i] = append(group, 7, 7, 7, 7, 7, 7, 7)[:len(group)]
		}
		before := whole(b, f)
		everything(t, b, f, r.Intn(b.Runners))
		if whole(b, f) != before {
			t.Fatal(before, whole(b, f))
		}
	}
}

// R3
func TestNilIsEmpty(t *testing.T) {
	for _, b := range []api.PoolBook{bookB(), bookC(), {Runners: 2, Step: 1}, {Step: 1}} {
		for _, f := range [][][]int{nil, finish(list(0), list(1), list(2)), finish(list(0), list(1)), finish(list(0), list(1), nil)} {
			c := b
			c.Bets, c.Scratched = append([]api.PoolBet{}, b.Bets...), []int{}
			g := [][]int{}
			for _, group := range f {
				g = append(g, append([]int{}, group...))
			}
			if one, two := everything(t, b, f, 0), everything(t, c, g, 0); fmt.Sprint(one) != fmt.Sprint(two) {
				t.Error(b, f, one, two)
			}
		}
	}
}

// R4
func TestResultsShareNoMemory(t *testing.T) {
	b := out(api.PoolBook{Kind: api.PoolPair, Runners: 5, Step: 1, Bets: make([]api.PoolBet, 1, 9)}, make([]int, 1, 9)...)
	b.Bets[0] = bet(1, 2, 3)
	f := finish(list(1, 2), list(3, 4))
	before := whole(b, f)
	for _, runner := range list(2, 4) {
		s, e := pool.Scratch(b, runner)
		if e != api.OK {
			t.Error(e)
		}
		for i := range s.Bets[:cap(s.Bets)] {
			s.Bets[:cap(s.Bets)][i] = bet(-7, -7, -7)
		}
		for i := range s.Scratched[:cap(s.Scratched)] {
			s.Scratched[:cap(s.Scratched)][i] = -7
		}
	}
	if whole(b, f) != before {
		t.Error(whole(b, f))
	}
}

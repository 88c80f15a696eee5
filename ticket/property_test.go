package ticket_test

import (
	"math/rand"
	"reflect"
	"slices"
	"strings"
	"testing"

	"quinella/api"
	"quinella/ticket"
)

// isCode is the chapter's definition of a code, for a word of the day.
func isCode(d api.TicketDay, word []byte) bool {
	sum := 0
	for place, c := range word {
		if place > 0 && c == word[place-1] {
			return false
		}
		sum += int(c-'a') * d.Keys[place]
	}
	return sum%d.Letters == d.Rest
}

// codes are all codes of a day, in lexicographic order.
func codes(d api.TicketDay) []string {
	var all []string
	word := make([]byte, d.Long)
	var fill func(place int)
	fill = func(place int) {
		if place == d.Long {
			if isCode(d, word) {
				all = append(all, string(word))
			}
			return
		}
		for letter := range d.Letters {
			word[place] = 'a' + byte(letter)
			fill(place + 1)
		}
	}
	fill(0)
	return all
}

// randomDay is a valid day with at most so many words.
func randomDay(r *rand.Rand, words int) api.TicketDay {
	for {
		d := api.TicketDay{Letters: 2 + r.Intn(5), Long: 2 + r.Intn(7)}
		many := 1
		for range d.Long {
			many *= d.Letters
		}
		if many > words {
			continue
		}
		for range d.Long {
			d.Keys = append(d.Keys, r.Intn(d.Letters))
		}
		d.Rest = r.Intn(d.Letters)
		return d
	}
}

// largeDay is a day with all letters and places.
func largeDay(r *rand.Rand) api.TicketDay {
	d := api.TicketDay{Letters: 6, Long: 8, Rest: r.Intn(6)}
	for range 8 {
		d.Keys = append(d.Keys, r.Intn(6))
	}
	return d
}

func randomWord(r *rand.Rand, d api.TicketDay) string {
	var word strings.Builder
	for range d.Long {
		word.WriteByte('a' + byte(r.Intn(d.Letters)))
	}
	return word.String()
}

// randomTorn is a torn ticket of which some letters are open, and others are one of two or so.
func randomTorn(r *rand.Rand, d api.TicketDay) []int {
	var ticket []int
	all := 1<<d.Letters - 1
	open := r.Intn(4)
	for range d.Long {
		set := 1 + r.Intn(all)
		if r.Intn(4) <= open {
			set |= r.Intn(all + 1)
		}
		if r.Intn(4) < open {
			set = all
		}
		ticket = append(ticket, set)
	}
	return ticket
}

// randomSold is some ranges of the numbers below many.
func randomSold(r *rand.Rand, many, ranges int) []api.Range {
	var out []api.Range
	free := 0
	for range r.Intn(ranges + 1) {
		if free >= many {
			break
		}
		lo := free + r.Intn(1+(many-free)/3)
		hi := min(lo+r.Intn(1+many/4), many-1)
		out = append(out, api.Range{Lo: int64(lo), Hi: int64(hi)})
		free = hi + 1
	}
	return out
}

// P6.1, P6.2, P6.8
func TestCodesAsDefined(t *testing.T) {
	rng := rand.New(rand.NewSource(81))
	var days []api.TicketDay
	for range 150 {
		days = append(days, randomDay(rng, 5000))
	}
	days = append(days, largeDay(rng), largeDay(rng), widest())
	for _, d := range days {
		all := codes(d)
		if n, e := ticket.Count(d); n != int64(len(all)) || e != api.OK {
			t.Fatal(d, n, e, len(all))
		}
		before := ""
		for tries := range min(len(all), 150) {
			number := tries
			if len(all) > 150 {
				number = rng.Intn(len(all))
			}
			c, e := ticket.Code(d, int64(number))
			n, f := ticket.Number(d, all[number])
			if c != all[number] || e != api.OK || n != int64(number) || f != api.OK {
				t.Fatal(d, number, c, e, n, f)
			}
			if len(all) <= 150 && c <= before {
				t.Fatal(d, number, c, before)
			}
			before = c
		}
		if c, e := ticket.Code(d, int64(len(all))); c != "" || e != api.ErrRange {
			t.Fatal(d, c, e)
		}
		for range 30 {
			word := randomWord(rng, d)
			n, e := ticket.Number(d, word)
			number, found := slices.BinarySearch(all, word)
			if found != (e == api.OK) || found && n != int64(number) {
				t.Fatal(d, word, n, e, number)
			}
			equal := false
			for place := 1; place < len(word); place++ {
				equal = equal || word[place] == word[place-1]
			}
			if equal != (e == api.ErrRule) || !found && !equal && e != api.ErrSum {
				t.Fatal(d, word, e)
			}
		}
	}
}

// known is what the slow reading says of a torn ticket.
type known struct {
	numbers []int64 // of the codes that fit
	sold    int64   // how many of them were sold
	kind    int
	sure    []int
}

func knownOf(all []string, torn []int, sold []api.Range) known {
	var k known
	sure := make([]int, len(torn))
	for number, word := range all {
		if !fits(torn, word) {
			continue
		}
		k.numbers = append(k.numbers, int64(number))
		if wasSold(sold, int64(number)) {
			k.sold++
		}
		for place := range sure {
			sure[place] |= 1 << (word[place] - 'a')
		}
	}
	if len(k.numbers) > 0 {
		k.sure = sure
	}
	if k.sold > 0 {
		k.kind = api.TicketOpen
		if k.sold == int64(len(k.numbers)) {
			k.kind = api.TicketGood
		}
	}
	return k
}

// checkKnown checks what the package says of a torn ticket, of the numbers of the codes that fit at most so many.
func checkKnown(t *testing.T, rng *rand.Rand, d api.TicketDay, torn []int, sold []api.Range, k known, most int) {
	t.Helper()
	if n, m, e := ticket.Fits(d, torn, sold); n != int64(len(k.numbers)) || m != k.sold || e != api.OK {
		t.Fatal(d, torn, sold, n, m, e, k)
	}
	if kind, e := ticket.Kind(d, torn, sold); kind != k.kind || e != api.OK {
		t.Fatal(d, torn, sold, kind, e, k)
	}
	want := api.OK
	if k.sure == nil {
		want = api.ErrTorn
	}
	if s, e := ticket.Sure(d, torn); !slices.Equal(s, k.sure) || e != want {
		t.Fatal(d, torn, s, e, k)
	}
	for tries := range min(len(k.numbers), most) {
		index := tries
		if len(k.numbers) > most {
			index = rng.Intn(len(k.numbers))
		}
		if n, e := ticket.Find(d, torn, int64(index)); n != k.numbers[index] || e != api.OK {
			t.Fatal(d, torn, index, n, e, k)
		}
	}
	if n, e := ticket.Find(d, torn, int64(len(k.numbers))); n != 0 || e != api.ErrRange {
		t.Fatal(d, torn, n, e, k)
	}
}

// P6.3, P6.4, P6.9
func TestTornAsDefined(t *testing.T) {
	rng := rand.New(rand.NewSource(82))
	kinds, torns := map[int]int{}, 0
	for range 300 {
		d := randomDay(rng, 3000)
		all := codes(d)
		for range 4 {
			torn, ranges := randomTorn(rng, d), randomSold(rng, len(all), 10)
			k := knownOf(all, torn, ranges)
			checkKnown(t, rng, d, torn, ranges, k, 30)
			kinds[k.kind]++
			if k.sure == nil {
				torns++
				continue
			}
			checkKnown(t, rng, d, k.sure, ranges, k, 30)
		}
	}
	for range 2 {
		d := largeDay(rng)
		all := codes(d)
		for range 20 {
			torn, ranges := randomTorn(rng, d), randomSold(rng, len(all), 10)
			checkKnown(t, rng, d, torn, ranges, knownOf(all, torn, ranges), 10)
		}
	}
	for _, kind := range []int{api.TicketFalse, api.TicketOpen, api.TicketGood} {
		if kinds[kind] < 50 || torns < 50 {
			t.Error(kinds, torns)
		}
	}
}

// parted are the ranges, each in one of two lists, or cut in two.
func parted(r *rand.Rand, ranges []api.Range) (a, b []api.Range) {
	for _, x := range ranges {
		cut := x.Lo - 1 + r.Int63n(x.Hi-x.Lo+3) // the last number of the one part
		if cut >= x.Lo {
			a = append(a, api.Range{Lo: x.Lo, Hi: min(cut, x.Hi)})
		}
		if cut < x.Hi {
			b = append(b, api.Range{Lo: max(cut+1, x.Lo), Hi: x.Hi})
		}
		if r.Intn(2) == 0 {
			a, b = b, a
		}
	}
	return a, b
}

func count(t *testing.T, d api.TicketDay, torn []int, sold []api.Range) (int64, int64) {
	t.Helper()
	n, m, e := ticket.Fits(d, torn, sold)
	if e != api.OK {
		t.Fatal(d, torn, sold, e)
	}
	return n, m
}

// P6.10
func TestParted(t *testing.T) {
	rng := rand.New(rand.NewSource(83))
	seen := 0
	for range 1000 {
		d := randomDay(rng, 1<<21)
		many, _ := ticket.Count(d)
		torn, ranges := randomTorn(rng, d), randomSold(rng, int(many), 10)
		n, m := count(t, d, torn, ranges)
		place := rng.Intn(d.Long)
		one := torn[place] & rng.Intn(1<<d.Letters)
		if one != 0 && one != torn[place] {
			seen++
			a, b := slices.Clone(torn), slices.Clone(torn)
			a[place], b[place] = one, torn[place]-one
			n1, m1 := count(t, d, a, ranges)
			n2, m2 := count(t, d, b, ranges)
			if n1+n2 != n || m1+m2 != m {
				t.Fatal(d, torn, ranges, a, n, m, n1, m1, n2, m2)
			}
		}
		a, b := parted(rng, ranges)
		_, m1 := count(t, d, torn, a)
		_, m2 := count(t, d, torn, b)
		if m1+m2 != m {
			t.Fatal(d, torn, ranges, a, b, m, m1, m2)
		}
	}
	if seen < 200 {
		t.Error(seen)
	}
}

// P6.11
func TestMore(t *testing.T) {
	rng := rand.New(rand.NewSource(84))
	better := 0
	for range 1500 {
		d := randomDay(rng, 1<<18)
		many, _ := ticket.Count(d)
		torn, ranges := randomTorn(rng, d), randomSold(rng, int(many), 5)
		n, m := count(t, d, torn, ranges)
		wider := slices.Clone(torn)
		wider[rng.Intn(d.Long)] |= rng.Intn(1 << d.Letters)
		if n1, m1 := count(t, d, wider, ranges); n1 < n || m1 < m {
			t.Fatal(d, torn, wider, ranges, n, m, n1, m1)
		}
		var less []api.Range
		for _, r := range ranges {
			r.Lo += rng.Int63n(r.Hi - r.Lo + 1)
			r.Hi -= rng.Int63n(r.Hi - r.Lo + 1)
			if rng.Intn(3) > 0 {
				less = append(less, r)
			}
		}
		a, e := ticket.Kind(d, torn, less)
		b, f := ticket.Kind(d, torn, ranges)
		if e != api.OK || f != api.OK || a > b {
			t.Fatal(d, torn, less, ranges, a, b, e, f)
		}
		if a < b {
			better++
		}
	}
	if better < 200 {
		t.Error(better)
	}
}

// differ is in how many letters two words differ.
func differ(a, b string) int {
	n := 0
	for i := range a {
		if a[i] != b[i] {
			n++
		}
	}
	return n
}

// nearestOf is the first code that differs least from a word.
func nearestOf(all []string, word string) (int, string) {
	least, code := 99, ""
	for _, c := range all {
		if n := differ(c, word); n < least {
			least, code = n, c
		}
	}
	return least, code
}

// P6.5, P6.12
func TestNearAsDefined(t *testing.T) {
	rng := rand.New(rand.NewSource(85))
	most := map[int]int{}
	var days []api.TicketDay
	for range 250 {
		days = append(days, randomDay(rng, 5000))
	}
	days = append(days, largeDay(rng), largeDay(rng))
	for _, d := range days {
		all := codes(d)
		for range 12 {
			word := randomWord(rng, d)
			if len(all) > 0 && rng.Intn(6) == 0 {
				word = all[rng.Intn(len(all))]
			}
			n, c, e := ticket.Near(d, word)
			if len(all) == 0 {
				if n != 0 || c != "" || e != api.ErrNone {
					t.Fatal(d, word, n, c, e)
				}
				continue
			}
			least, code := nearestOf(all, word)
			if n != least || c != code || e != api.OK {
				t.Fatal(d, word, n, c, e, least, code)
			}
			most[n]++
			if _, f := ticket.Number(d, word); (n == 0) != (f == api.OK) {
				t.Fatal(d, word, n, f)
			}
			other := []byte(word)
			other[rng.Intn(d.Long)] = 'a' + byte(rng.Intn(d.Letters))
			if n1, _, e := ticket.Near(d, string(other)); e != api.OK || n1 < n-1 || n1 > n+1 {
				t.Fatal(d, word, string(other), n, n1, e)
			}
		}
	}
	for n := range 4 {
		if most[n] < 50 {
			t.Error(most)
		}
	}
}

// boundOf is the chapter's definition of the bound of a set of claims.
func boundOf(all []string, claims [][]int, sold []api.Range, set []int) int64 {
	bound := int64(len(claims) - len(set))
	for number, word := range all {
		fitsOne := slices.ContainsFunc(set, func(claim int) bool { return fits(claims[claim], word) })
		if fitsOne && wasSold(sold, int64(number)) {
			bound++
		}
	}
	return bound
}

// mostPaid is how many claims from one on can be paid beside those that are, by trying everything; no more than so many codes of each are tried.
func mostPaid(choices [][]int64, paid []int64) int64 {
	if len(choices) == 0 {
		return 0
	}
	most := mostPaid(choices[1:], paid)
	for _, code := range choices[0] {
		if !slices.Contains(paid, code) {
			most = max(most, 1+mostPaid(choices[1:], append(slices.Clone(paid), code)))
		}
	}
	return most
}

// alike are claims of which many can be the same code.
func alike(r *rand.Rand, d api.TicketDay, all []string) [][]int {
	var list [][]int
	for range r.Intn(7) {
		torn := randomTorn(r, d)
		if len(all) > 0 && r.Intn(4) > 0 {
			word := all[r.Intn(min(len(all), 4))]
			for place := range torn {
				torn[place] = 1 << (word[place] - 'a')
			}
			for range r.Intn(d.Long) {
				torn[r.Intn(d.Long)] |= r.Intn(1 << d.Letters)
			}
		}
		list = append(list, torn)
	}
	return list
}

// P6.6, P6.7
func TestClaimsAsDefined(t *testing.T) {
	rng := rand.New(rand.NewSource(86))
	tight, empty := 0, 0
	for range 3000 {
		d := randomDay(rng, 1000)
		all := codes(d)
		list, ranges := alike(rng, d, all), randomSold(rng, len(all), 10)
		if rng.Intn(2) == 0 && len(all) > 0 {
			ranges = sold(0, int64(min(len(all)-1, rng.Intn(8))))
		}
		most := int64(len(list))
		for set := range 1 << len(list) {
			claims := members(set)
			bound := boundOf(all, list, ranges, claims)
			most = min(most, bound)
			if rng.Intn(8) > 0 {
				continue
			}
			if b, e := ticket.CheckShort(d, list, ranges, claims); b != bound || e != api.OK {
				t.Fatal(d, list, ranges, claims, b, e, bound)
			}
		}
		checkPayment(t, d, list, ranges, most)
		if most < int64(len(list)) {
			tight++
		}
		if most == 0 {
			empty++
		}
		var choices [][]int64
		for _, torn := range list {
			can := slices.DeleteFunc(knownOf(all, torn, nil).numbers, func(code int64) bool { return !wasSold(ranges, code) })
			choices = append(choices, can)
		}
		if few(choices) && mostPaid(choices, nil) != most {
			t.Fatal(d, list, ranges, choices, most)
		}
	}
	if tight < 500 || tight-empty < 250 {
		t.Error(tight, empty)
	}
}

// few reports whether trying all codes of all claims does not take long.
func few(choices [][]int64) bool {
	ways := 1
	for _, can := range choices {
		ways *= 1 + min(len(can), 1000)
		if ways > 10000 {
			return false
		}
	}
	return true
}

// members are the indexes of a set, a bit for each.
func members(set int) []int {
	var list []int
	for i := range 6 {
		if set>>i&1 == 1 {
			list = append(list, i)
		}
	}
	return list
}

// P6.6, P6.7: claims at the limits; what cannot be enumerated proves itself.
func TestClaimsOfLargeDays(t *testing.T) {
	rng := rand.New(rand.NewSource(87))
	tight := 0
	for range 200 {
		d := largeDay(rng)
		many, _ := ticket.Count(d)
		if many == 0 {
			continue
		}
		first, _ := ticket.Code(d, rng.Int63n(many))
		list := alike(rng, d, []string{first})
		ranges := randomSold(rng, int(many), 10)
		p, e := ticket.Paid(d, list, ranges)
		if e != api.OK || !isPayment(t, d, list, ranges, p) {
			t.Fatal(d, list, ranges, p, e)
		}
		checkPayment(t, d, list, ranges, paying(p))
		if paying(p) < int64(len(list)) {
			tight++
		}
	}
	if tight < 50 {
		t.Error(tight)
	}
}

func divisor(a, b int) int {
	for b > 0 {
		a, b = b, a%b
	}
	return a
}

// P6.13
func TestChecked(t *testing.T) {
	rng := rand.New(rand.NewSource(88))
	checked, twins := 0, 0
	for range 400 {
		d := randomDay(rng, 1<<21)
		many, _ := ticket.Count(d)
		if many == 0 {
			continue
		}
		code, _ := ticket.Code(d, rng.Int63n(many))
		for place, key := range d.Keys {
			open := make([]int, d.Long)
			for i := range open {
				open[i] = 1 << (code[i] - 'a')
			}
			open[place] = 1<<d.Letters - 1
			n, _ := count(t, d, open, nil)
			if divisor(key, d.Letters) != 1 {
				if n > 1 {
					twins++
				}
				continue
			}
			checked++
			if n != 1 {
				t.Fatal(d, code, place, n)
			}
		}
	}
	if checked < 300 || twins < 100 {
		t.Error(checked, twins)
	}
}

// someInt is any number, often one at an end.
func someInt(r *rand.Rand) int64 {
	near := append(slices.Clone(farthest), -1, 0, 1, 2, 3, 5, 6, 7, 8, 9, 63, 64, 1<<31, 1<<32, 1<<62)
	if r.Intn(4) == 0 {
		return int64(r.Uint64())
	}
	return near[r.Intn(len(near))]
}

func someList(r *rand.Rand, most int) []int {
	var list []int
	for range r.Intn(most + 1) {
		list = append(list, int(someInt(r)))
	}
	return list
}

// call is arguments of all functions.
type call struct {
	d      api.TicketDay
	word   string
	number int64
	torn   []int
	claims [][]int
	sold   []api.Range
	set    []int
}

func (c call) clone() call {
	c.d.Keys, c.torn, c.sold, c.set = slices.Clone(c.d.Keys), slices.Clone(c.torn), slices.Clone(c.sold), slices.Clone(c.set)
	var claims [][]int
	for _, torn := range c.claims {
		claims = append(claims, slices.Clone(torn))
	}
	c.claims = claims
	return c
}

// someCall is arguments of which some can be anything.
func someCall(r *rand.Rand) call {
	odd := func() bool { return r.Intn(5) == 0 }
	d := randomDay(r, 20000)
	many, _ := ticket.Count(d)
	c := call{d: d, word: randomWord(r, d), number: r.Int63n(many + 1), torn: randomTorn(r, d), sold: randomSold(r, int(many), 10)}
	for range r.Intn(4) {
		c.claims = append(c.claims, randomTorn(r, d))
	}
	c.set = members(r.Intn(1 << len(c.claims)))
	if odd() {
		c.d = api.TicketDay{Letters: int(someInt(r)), Long: int(someInt(r)), Keys: someList(r, 9), Rest: int(someInt(r))}
	}
	if odd() {
		c.word = string([]byte{byte(r.Intn(256)), byte(r.Intn(256))})
	}
	if odd() {
		c.number = someInt(r)
	}
	if odd() {
		c.torn = someList(r, 9)
	}
	if odd() {
		c.claims = append(c.claims, someList(r, 9))
	}
	if odd() {
		c.sold = append(c.sold, api.Range{Lo: someInt(r), Hi: someInt(r)})
	}
	if odd() {
		c.set = someList(r, 7)
	}
	return c
}

// answers are the results of all functions: of each its results, and at last its error.
func (c call) answers() [][]any {
	of := func(results ...any) []any { return results }
	pair := func(a, b any) []any { return []any{a, b} }
	list := [][]any{of(ticket.CheckDay(c.d)), pair(ticket.Count(c.d)), pair(ticket.Code(c.d, c.number)), pair(ticket.Number(c.d, c.word))}
	n, m, e := ticket.Fits(c.d, c.torn, c.sold)
	wrong, code, f := ticket.Near(c.d, c.word)
	list = append(list, of(n, m, e), of(wrong, code, f), pair(ticket.Kind(c.d, c.torn, c.sold)), pair(ticket.Find(c.d, c.torn, c.number)))
	list = append(list, pair(ticket.Sure(c.d, c.torn)), pair(ticket.CheckShort(c.d, c.claims, c.sold, c.set)))
	return append(list, pair(ticket.Short(c.d, c.claims, c.sold)), pair(ticket.Paid(c.d, c.claims, c.sold)))
}

// isZero reports whether a result is what comes with an error.
func isZero(result any) bool {
	v := reflect.ValueOf(result)
	return v.IsZero() || v.Kind() == reflect.Slice && v.Len() == 0
}

// P1, R2, R4, R9, R10
func TestAnyArguments(t *testing.T) {
	rng := rand.New(rand.NewSource(89))
	for range 1500 {
		c := someCall(rng)
		kept := c.clone()
		got := c.answers()
		for i, results := range got {
			last := len(results) - 1
			for _, result := range results[:last] {
				if results[last] != api.OK && !isZero(result) {
					t.Fatal(c, i, results)
				}
			}
		}
		if !reflect.DeepEqual(c, kept) {
			t.Fatal("an argument is changed", c, kept)
		}
		if again := c.answers(); !reflect.DeepEqual(got, again) {
			t.Fatal(c, got, again)
		}
	}
}

// R3
func TestNilIsEmpty(t *testing.T) {
	for _, ranges := range [][]api.Range{nil, {}} {
		if n, m, e := ticket.Fits(dayD(), list(7, 2, 7), ranges); n != 2 || m != 0 || e != api.OK {
			t.Error(n, m, e)
		}
		for _, claims := range [][][]int{nil, {}} {
			for _, set := range [][]int{nil, {}} {
				if b, e := ticket.CheckShort(dayD(), claims, ranges, set); b != 0 || e != api.OK {
					t.Error(b, e)
				}
			}
			if s, e := ticket.Short(dayD(), claims, ranges); len(s) != 0 || e != api.OK {
				t.Error(s, e)
			}
			if p, e := ticket.Paid(dayD(), claims, ranges); len(p) != 0 || e != api.OK {
				t.Error(p, e)
			}
		}
	}
	for _, torn := range [][]int{nil, {}} {
		if _, e := ticket.Sure(dayD(), torn); e != api.ErrEqual {
			t.Error(e)
		}
		if e := ticket.CheckDay(api.TicketDay{Letters: 3, Long: 2, Keys: torn}); e != api.ErrEqual {
			t.Error(e)
		}
	}
}

// keeps reports whether calls return the same again after the list that a call has returned is overwritten.
func keeps[T any](ask func() ([]T, api.Errno)) bool {
	first, _ := ask()
	kept := slices.Clone(first)
	clear(first)
	second, _ := ask()
	return len(kept) > 0 && reflect.DeepEqual(second, kept)
}

// R4
func TestResultsShareNoMemory(t *testing.T) {
	two := claims(list(1, 2, 7), list(1, 2, 4))
	letters := list(5, 2, 5)
	if !keeps(func() ([]int, api.Errno) { return ticket.Sure(dayD(), letters) }) || !slices.Equal(letters, list(5, 2, 5)) {
		t.Error("Sure", letters)
	}
	if !keeps(func() ([]int, api.Errno) { return ticket.Short(dayD(), two, sold(0, 5)) }) {
		t.Error("Short")
	}
	if !keeps(func() ([]int64, api.Errno) { return ticket.Paid(dayD(), two, sold(0, 5)) }) {
		t.Error("Paid")
	}
}

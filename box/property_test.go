package box_test

import (
	"math/bits"
	"math/rand"
	"reflect"
	"slices"
	"testing"

	"quinella/api"
	"quinella/box"
)

// outcomesOf are all outcomes of a card, in lexicographic order.
func outcomesOf(c api.BoxCard) [][]int {
	many := 1
	for _, runners := range c.Runners {
		many *= runners
	}
	all := make([][]int, many)
	for i := range all {
		all[i] = make([]int, len(c.Runners))
		for race, left := len(c.Runners)-1, i; race >= 0; race-- {
			all[i][race] = left % c.Runners[race]
			left /= c.Runners[race]
		}
	}
	return all
}

// winners is the outcome that a part without another one has.
func winners(sets []int) []int {
	var outcome []int
	for _, set := range sets {
		outcome = append(outcome, bits.Len(uint(set))-1)
	}
	return outcome
}

// wrongIn returns in how many races winners are not in their sets.
func wrongIn(sets, outcome []int) int {
	wrong := 0
	for race, winner := range outcome {
		if sets[race]/(1<<winner)%2 == 0 {
			wrong++
		}
	}
	return wrong
}

// hasAll reports whether all winners are in their sets.
func hasAll(sets, outcome []int) bool { return wrongIn(sets, outcome) == 0 }

func unitsOf(l []api.BoxTicket, outcome []int) int64 {
	var units int64
	for _, one := range l {
		if hasAll(one.Sets, outcome) {
			units += one.Units
		}
	}
	return units
}

// wins returns the tickets that win with some of the outcomes, increasing.
func wins(l []api.BoxTicket, outcomes ...[]int) []int {
	var list []int
	for i, one := range l {
		if slices.ContainsFunc(outcomes, func(outcome []int) bool { return hasAll(one.Sets, outcome) }) {
			list = append(list, i)
		}
	}
	return list
}

// reading is what the chapter says of a card and tickets, found by looking at all outcomes.
type reading struct {
	c   api.BoxCard
	l   []api.BoxTicket
	all [][]int
}

func read(c api.BoxCard, l []api.BoxTicket) reading { return reading{c, l, outcomesOf(c)} }

func (r reading) covered(outcomes [][]int) int64 {
	var n int64
	for _, outcome := range outcomes {
		if len(wins(r.l, outcome)) > 0 {
			n++
		}
	}
	return n
}

func (r reading) open() []int {
	for _, outcome := range r.all {
		if len(wins(r.l, outcome)) == 0 {
			return outcome
		}
	}
	return nil
}

func (r reading) deepest() (int64, []int) {
	units, at := unitsOf(r.l, r.all[0]), r.all[0]
	for _, outcome := range r.all {
		if n := unitsOf(r.l, outcome); n > units {
			units, at = n, outcome
		}
	}
	return units, at
}

func (r reading) idle() []int {
	alone := map[int]bool{}
	for _, outcome := range r.all {
		if l := wins(r.l, outcome); len(l) == 1 {
			alone[l[0]] = true
		}
	}
	var idle []int
	for i := range r.l {
		if !alone[i] {
			idle = append(idle, i)
		}
	}
	return idle
}

func (r reading) within(one api.BoxTicket, wrong int) int64 {
	var n int64
	for _, outcome := range r.all {
		if wrongIn(one.Sets, outcome) <= wrong {
			n++
		}
	}
	return n
}

// behind are the outcomes that begin with these winners.
func (r reading) behind(won []int) [][]int {
	var list [][]int
	for _, outcome := range r.all {
		if slices.Equal(outcome[:len(won)], won) {
			list = append(list, outcome)
		}
	}
	return list
}

// checkMap is what CheckMap has to return for parts whose Sets are boxes and whose Units are from 0 on.
func (r reading) checkMap(parts []api.BoxTicket) api.Errno {
	none, twice, split, miscounted := false, false, false, false
	for _, outcome := range r.all {
		of := wins(parts, outcome)
		none = none || len(of) == 0
		twice = twice || len(of) > 1
	}
	for _, part := range parts {
		kinds := map[int]bool{}
		for _, outcome := range r.all {
			if !hasAll(part.Sets, outcome) {
				continue
			}
			kind := 0
			for _, i := range wins(r.l, outcome) {
				kind |= 1 << i
			}
			kinds[kind] = true
			miscounted = miscounted || unitsOf(r.l, outcome) != part.Units
		}
		split = split || len(kinds) > 1
	}
	switch {
	case twice:
		return api.ErrHave
	case split:
		return api.ErrRule
	case none || miscounted:
		return api.ErrSum
	}
	return api.OK
}

// beginnings are all lists of winners with which outcomes can begin.
func beginnings(c api.BoxCard) [][]int {
	all := [][]int{nil}
	for races := range c.Runners {
		all = append(all, outcomesOf(card(c.Runners[:races+1]...))...)
	}
	return all
}

// compare checks all functions but CheckMap for a card and tickets.
func compare(t *testing.T, c api.BoxCard, l []api.BoxTicket) {
	t.Helper()
	r := read(c, l)
	for _, one := range l {
		if n, e := box.Size(c, one); n != r.within(one, 0) || e != api.OK {
			t.Fatal("Size", c, one, n, e)
		}
		for wrong := range len(c.Runners) + 1 {
			if n, e := box.Within(c, one, wrong); n != r.within(one, wrong) || e != api.OK {
				t.Fatal("Within", c, one, wrong, n, e)
			}
		}
	}
	if m, e := box.Map(c, l); !isMap(c, l, m) || e != api.OK {
		t.Fatal("Map", c, l, m, e)
	}
	if n, e := box.Covered(c, l); n != r.covered(r.all) || e != api.OK {
		t.Fatal("Covered", c, l, n, e)
	}
	if o, e := box.Open(c, l); !slices.Equal(o, r.open()) || (e == api.OK) != (r.open() != nil) || e != api.OK && e != api.ErrNone {
		t.Fatal("Open", c, l, o, e)
	}
	units, at := r.deepest()
	if n, o, e := box.Deepest(c, l); n != units || !slices.Equal(o, at) || e != api.OK {
		t.Fatal("Deepest", c, l, n, o, e)
	}
	if i, e := box.Idle(c, l); !slices.Equal(i, r.idle()) || e != api.OK {
		t.Fatal("Idle", c, l, i, e)
	}
	for _, outcome := range r.all {
		for _, pool := range []int64{0, 7, 1 << 40} {
			paid, rest := int64(0), pool
			if n := unitsOf(l, outcome); n > 0 {
				paid, rest = pool/n, pool%n
			}
			if p, q, e := box.Pays(c, l, pool, outcome); p != paid || q != rest || e != api.OK {
				t.Fatal("Pays", c, l, pool, outcome, p, q, e)
			}
		}
	}
	for _, won := range beginnings(c) {
		behind := r.behind(won)
		if n, alive, e := box.After(c, l, won); n != r.covered(behind) || !slices.Equal(alive, wins(l, behind...)) || e != api.OK {
			t.Fatal("After", c, l, won, n, alive, e)
		}
	}
}

// boxesOf are all boxes of a card, with each of the units.
func boxesOf(c api.BoxCard, units ...int64) []api.BoxTicket {
	sets := api.BoxCard{}
	for _, runners := range c.Runners {
		sets.Runners = append(sets.Runners, 1<<runners-1)
	}
	var all []api.BoxTicket
	for _, set := range outcomesOf(sets) {
		for race := range set {
			set[race]++
		}
		for _, n := range units {
			all = append(all, ticket(n, set...))
		}
	}
	return all
}

// choices calls do with all lists of at most so many of the tickets.
func choices(from []api.BoxTicket, most int, do func([]api.BoxTicket)) {
	var goOn func(l []api.BoxTicket)
	goOn = func(l []api.BoxTicket) {
		do(l)
		if len(l) == most {
			return
		}
		for _, one := range from {
			goOn(append(slices.Clone(l), one))
		}
	}
	goOn(nil)
}

// P8.2 to P8.6: all lists of few tickets on small cards.
func TestAllSmallSheets(t *testing.T) {
	for _, x := range []struct {
		c     api.BoxCard
		units []int64
		most  int
	}{
		{card(1), []int64{1, 2}, 3},
		{card(2), []int64{1, 2}, 3},
		{card(3), []int64{1, 2}, 2},
		{card(4), []int64{3}, 2},
		{card(1, 1), []int64{1, 2}, 3},
		{card(2, 2), []int64{1, 2}, 2},
		{card(2, 2), []int64{1}, 3},
		{card(3, 2), []int64{1}, 2},
		{card(2, 3), []int64{1}, 2},
		{card(2, 1, 2), []int64{1, 2}, 2},
		{card(2, 2, 2), []int64{1}, 2},
	} {
		choices(boxesOf(x.c, x.units...), x.most, func(l []api.BoxTicket) { compare(t, x.c, l) })
	}
}

// sampler makes cards and tickets by chance, always the same ones.
type sampler struct{ *rand.Rand }

func samplerOf(seed int64) sampler { return sampler{rand.New(rand.NewSource(seed))} }

// card returns a card with at most so many outcomes.
func (s sampler) card(most int) api.BoxCard {
	for {
		c := api.BoxCard{}
		many := 1
		for range 1 + s.Intn(api.MaxBoxRaces) {
			runners := 1 + s.Intn(api.MaxBoxRunners)
			c.Runners = append(c.Runners, runners)
			many *= runners
		}
		if many <= most {
			return c
		}
	}
}

// ticket returns a ticket, often one that names many runners.
func (s sampler) ticket(c api.BoxCard) api.BoxTicket {
	one := ticket(1 + s.Int63n(5))
	if s.Intn(4) == 0 {
		one.Units = 1 + s.Int63n(api.MaxBoxUnits)
	}
	wide := s.Intn(2) == 0
	for _, runners := range c.Runners {
		all := 1<<runners - 1
		set := 1 + s.Intn(all)
		if wide {
			set |= 1 + s.Intn(all)
		}
		if s.Intn(3) == 0 {
			set = all
		}
		one.Sets = append(one.Sets, set)
	}
	return one
}

func (s sampler) tickets(c api.BoxCard, most int) []api.BoxTicket {
	var l []api.BoxTicket
	for range s.Intn(most + 1) {
		l = append(l, s.ticket(c))
	}
	return l
}

// sheet returns a card and at most so many tickets.
func (s sampler) sheet(most int) (api.BoxCard, []api.BoxTicket) {
	c := s.card(200)
	return c, s.tickets(c, most)
}

// P8.2 to P8.6
func TestRandomSheets(t *testing.T) {
	s := samplerOf(81)
	for range 250 {
		c, l := s.sheet(api.MaxBoxTickets)
		compare(t, c, l)
	}
}

// P8.3: all lists of few parts on small cards.
func TestCheckMapAsDefined(t *testing.T) {
	seen := map[api.Errno]int{}
	for _, x := range []struct {
		c    api.BoxCard
		l    []api.BoxTicket
		most int
	}{
		{card(1), nil, 3},
		{card(1), tickets(ticket(1, 1)), 3},
		{card(1), tickets(ticket(1, 1), ticket(1, 1)), 3},
		{card(3), nil, 3},
		{card(3), tickets(ticket(1, 3)), 3},
		{card(3), tickets(ticket(1, 3), ticket(1, 6)), 3},
		{card(3), tickets(ticket(2, 5), ticket(2, 2)), 3},
		{card(1, 2), tickets(ticket(2, 1, 1)), 3},
		{card(2, 2), nil, 3},
		{card(2, 2), tickets(ticket(2, 3, 1)), 3},
		{card(2, 2), tickets(ticket(1, 1, 3), ticket(1, 3, 2)), 3},
		{card(2, 2), tickets(ticket(1, 1, 1), ticket(1, 2, 2)), 3},
	} {
		r := read(x.c, x.l)
		choices(boxesOf(x.c, 0, 1, 2), x.most, func(parts []api.BoxTicket) {
			want := r.checkMap(parts)
			seen[want]++
			if e := box.CheckMap(x.c, x.l, parts); e != want {
				t.Fatal(x, parts, e, want)
			}
		})
	}
	for _, e := range []api.Errno{api.OK, api.ErrHave, api.ErrRule, api.ErrSum} {
		if seen[e] < 50 {
			t.Error(seen)
		}
	}
}

// parted is a map of which some parts are parted into two.
func (s sampler) parted(parts []api.BoxTicket) []api.BoxTicket {
	var more []api.BoxTicket
	for _, p := range parts {
		race := s.Intn(len(p.Sets))
		if bits.OnesCount(uint(p.Sets[race])) < 2 || s.Intn(2) == 0 {
			more = append(more, p)
			continue
		}
		one, two := s.cut(p, race)
		more = append(more, one, two)
	}
	s.Shuffle(len(more), func(i, j int) { more[i], more[j] = more[j], more[i] })
	return more
}

// cut parts the set of a ticket for a race, of two or more runners, into two.
func (s sampler) cut(p api.BoxTicket, race int) (one, two api.BoxTicket) {
	set := p.Sets[race]
	some := 0
	for some == 0 || some == set {
		some = set & s.Intn(1<<6)
	}
	one, two = ticket(p.Units, slices.Clone(p.Sets)...), ticket(p.Units, slices.Clone(p.Sets)...)
	one.Sets[race], two.Sets[race] = some, set&^some
	return one, two
}

// spoil changes parts a little; what it returns need not be wrong.
func (s sampler) spoil(c api.BoxCard, parts []api.BoxTicket) []api.BoxTicket {
	var spoiled []api.BoxTicket
	for _, p := range parts {
		spoiled = append(spoiled, ticket(p.Units, slices.Clone(p.Sets)...))
	}
	at := s.Intn(len(spoiled))
	race := s.Intn(len(c.Runners))
	switch p := &spoiled[at]; s.Intn(6) {
	case 0:
		p.Units++
	case 1:
		p.Units = max(0, p.Units-1)
	case 2:
		p.Sets[race] = 1 + s.Intn(1<<c.Runners[race]-1)
	case 3:
		return slices.Delete(spoiled, at, at+1)
	case 4:
		return append(spoiled, ticket(p.Units, slices.Clone(p.Sets)...))
	case 5: // two parts that differ in one race become one
		for i, q := range spoiled {
			sets := slices.Clone(q.Sets)
			sets[race] = p.Sets[race]
			if i != at && slices.Equal(sets, p.Sets) {
				p.Sets[race] |= q.Sets[race]
				return slices.Delete(spoiled, i, i+1)
			}
		}
	}
	return spoiled
}

// P8.3: maps that are parted further, and such that are spoiled.
func TestCheckMapOfRandomSheets(t *testing.T) {
	s := samplerOf(82)
	seen := map[api.Errno]int{}
	for range 800 {
		c, l := s.sheet(4)
		r := read(c, l)
		m, e := box.Map(c, l)
		if e != api.OK {
			t.Fatal(c, l, e)
		}
		m = s.parted(m)
		if e := box.CheckMap(c, l, m); e != api.OK {
			t.Fatal(c, l, m, e)
		}
		for range 3 {
			m = s.spoil(c, m)
			want := r.checkMap(m)
			seen[want]++
			if e := box.CheckMap(c, l, m); e != want {
				t.Fatal(c, l, m, e, want)
			}
			if len(m) == 0 {
				break
			}
		}
	}
	for _, e := range []api.Errno{api.OK, api.ErrHave, api.ErrRule, api.ErrSum} {
		if seen[e] < 100 {
			t.Error(seen)
		}
	}
}

// P8.1, P8.3, P8.6: of several errors the one that is named first.
func TestFirstErrors(t *testing.T) {
	s := samplerOf(83)
	seen := map[api.Errno]int{}
	for range 3000 {
		c, l := s.sheet(3)
		many, equal, beyond, units := s.Intn(4) == 0, s.Intn(4) == 0, s.Intn(4) == 0, s.Intn(4) == 0
		parts := tickets(s.ticket(c), s.ticket(c), s.ticket(c))
		want := read(c, l).checkMap(parts)
		if units {
			want = api.ErrRange
			parts[s.Intn(3)].Units = -1
		}
		if beyond {
			want = api.ErrRange
			sets := parts[s.Intn(3)].Sets
			sets[s.Intn(len(sets))] = []int{0, -1, 64}[s.Intn(3)]
		}
		if equal {
			want = api.ErrEqual
			p := &parts[s.Intn(3)]
			p.Sets = append(p.Sets, s.Intn(2))
		}
		if many {
			want = api.ErrMany
			parts = slices.Repeat(parts, api.MaxBoxParts/3+1)
		}
		seen[want]++
		if e := box.CheckMap(c, l, parts); e != want {
			t.Fatal(c, l, parts, e, want)
		}
	}
	for _, e := range []api.Errno{api.ErrMany, api.ErrEqual, api.ErrRange, api.ErrHave} {
		if seen[e] < 100 {
			t.Error(seen)
		}
	}
}

func sizeOf(t *testing.T, c api.BoxCard, one api.BoxTicket) int64 {
	t.Helper()
	n, e := box.Size(c, one)
	if e != api.OK {
		t.Fatal(c, one, e)
	}
	return n
}

func coveredBy(t *testing.T, c api.BoxCard, l []api.BoxTicket) int64 {
	t.Helper()
	n, e := box.Covered(c, l)
	if e != api.OK {
		t.Fatal(c, l, e)
	}
	return n
}

func greatest(t *testing.T, c api.BoxCard, l []api.BoxTicket) int64 {
	t.Helper()
	n, _, e := box.Deepest(c, l)
	if e != api.OK {
		t.Fatal(c, l, e)
	}
	return n
}

func idleOf(t *testing.T, c api.BoxCard, l []api.BoxTicket) []int {
	t.Helper()
	i, e := box.Idle(c, l)
	if e != api.OK {
		t.Fatal(c, l, e)
	}
	return i
}

// unitsBy returns the units of an outcome, as what is paid of a pool tells them.
func unitsBy(t *testing.T, c api.BoxCard, l []api.BoxTicket, outcome []int) int64 {
	t.Helper()
	const pool = api.MaxNumber // more than there can be units
	paid, rest, e := box.Pays(c, l, pool, outcome)
	if e != api.OK {
		t.Fatal(c, l, e)
	}
	if paid == 0 {
		return 0
	}
	return (pool - rest) / paid
}

// P8.7
func TestMapped(t *testing.T) {
	s := samplerOf(84)
	open := map[bool]int{}
	for range 600 {
		c, l := s.sheet(api.MaxBoxTickets)
		m, _ := box.Map(c, l)
		m = s.parted(s.parted(m))
		if e := box.CheckMap(c, l, m); e != api.OK {
			t.Fatal(c, l, m, e)
		}
		var covered, most int64
		isOpen := false
		for _, p := range m {
			most = max(most, p.Units)
			if p.Units == 0 {
				isOpen = true
			} else {
				covered += sizeOf(t, c, ticket(1, p.Sets...))
			}
		}
		open[isOpen]++
		if n := coveredBy(t, c, l); n != covered {
			t.Fatal(c, l, n, covered)
		}
		if n := greatest(t, c, l); n != most {
			t.Fatal(c, l, n, most)
		}
		if o, e := box.Open(c, l); (e == api.OK) != isOpen {
			t.Fatal(c, l, o, e)
		}
	}
	if open[true] < 100 || open[false] < 100 {
		t.Error(open)
	}
}

// P8.8
func TestCut(t *testing.T) {
	s := samplerOf(85)
	cuts := 0
	for range 800 {
		c, l := s.sheet(api.MaxBoxTickets - 1)
		race := s.Intn(len(c.Runners))
		at := slices.IndexFunc(l, func(one api.BoxTicket) bool { return bits.OnesCount(uint(one.Sets[race])) > 1 })
		if at < 0 {
			continue
		}
		cuts++
		one, two := s.cut(l[at], race)
		if n := sizeOf(t, c, one) + sizeOf(t, c, two); n != sizeOf(t, c, l[at]) {
			t.Fatal(c, l[at], one, two, n)
		}
		parted := slices.Concat(l[:at], tickets(one, two), l[at+1:])
		for _, outcome := range outcomesOf(c) {
			if n, m := unitsBy(t, c, l, outcome), unitsBy(t, c, parted, outcome); n != m {
				t.Fatal(c, l, parted, outcome, n, m)
			}
		}
	}
	if cuts < 300 {
		t.Error(cuts)
	}
}

// turned puts the races of a card and tickets in another order, and the runners of each race.
func (s sampler) turned(c api.BoxCard, l []api.BoxTicket) (api.BoxCard, []api.BoxTicket) {
	d, m := api.BoxCard{}, make([]api.BoxTicket, len(l))
	for i, one := range l {
		m[i].Units = one.Units
	}
	for _, race := range s.Perm(len(c.Runners)) {
		d.Runners = append(d.Runners, c.Runners[race])
		name := s.Perm(c.Runners[race])
		for i, one := range l {
			set := 0
			for runner, now := range name {
				set |= one.Sets[race] >> runner & 1 << now
			}
			m[i].Sets = append(m[i].Sets, set)
		}
	}
	return d, m
}

// P8.9
func TestTurned(t *testing.T) {
	s := samplerOf(86)
	for range 500 {
		c, l := s.sheet(api.MaxBoxTickets)
		d, m := s.turned(c, l)
		for i := range l {
			if n, k := sizeOf(t, c, l[i]), sizeOf(t, d, m[i]); n != k {
				t.Fatal(c, l[i], d, m[i], n, k)
			}
		}
		if n, k := coveredBy(t, c, l), coveredBy(t, d, m); n != k {
			t.Fatal(c, l, d, m, n, k)
		}
		if n, k := greatest(t, c, l), greatest(t, d, m); n != k {
			t.Fatal(c, l, d, m, n, k)
		}
		if n, k := idleOf(t, c, l), idleOf(t, d, m); !slices.Equal(n, k) {
			t.Fatal(c, l, d, m, n, k)
		}
	}
}

// P8.10
func TestMore(t *testing.T) {
	s := samplerOf(87)
	idle, more := 0, 0
	for range 500 {
		c, l := s.sheet(api.MaxBoxTickets - 1)
		m := append(slices.Clone(l), s.ticket(c))
		n, k := coveredBy(t, c, l), coveredBy(t, c, m)
		if k < n {
			t.Fatal(c, m, n, k)
		}
		if k > n {
			more++
		}
		for _, outcome := range outcomesOf(c) {
			if n, k := unitsBy(t, c, l, outcome), unitsBy(t, c, m, outcome); k < n {
				t.Fatal(c, m, outcome, n, k)
			}
		}
		still := idleOf(t, c, m)
		for _, i := range idleOf(t, c, l) {
			idle++
			if !slices.Contains(still, i) {
				t.Fatal(c, m, i, still)
			}
		}
	}
	if idle < 200 || more < 100 {
		t.Error(idle, more)
	}
}

// P8.11
func TestIdleCoversNothing(t *testing.T) {
	s := samplerOf(88)
	seen := map[bool]int{}
	for range 500 {
		c, l := s.sheet(api.MaxBoxTickets)
		idle := idleOf(t, c, l)
		for i := range l {
			isIdle := slices.Contains(idle, i)
			seen[isIdle]++
			if n, k := coveredBy(t, c, l), coveredBy(t, c, slices.Delete(slices.Clone(l), i, i+1)); (n == k) != isIdle {
				t.Fatal(c, l, i, n, k, idle)
			}
		}
	}
	if seen[true] < 300 || seen[false] < 300 {
		t.Error(seen)
	}
}

// P8.12
func TestBehind(t *testing.T) {
	s := samplerOf(89)
	for range 400 {
		c, l := s.sheet(api.MaxBoxTickets)
		if n, _, e := box.After(c, l, nil); n != coveredBy(t, c, l) || e != api.OK {
			t.Fatal(c, l, n, e)
		}
		for _, won := range beginnings(c) {
			if len(won) == len(c.Runners) {
				continue
			}
			n, before, e := box.After(c, l, won)
			if e != api.OK {
				t.Fatal(c, l, won, e)
			}
			for winner := range c.Runners[len(won)] {
				k, behind, e := box.After(c, l, append(slices.Clone(won), winner))
				n -= k
				could := func(i int) bool { return slices.Contains(before, i) }
				if e != api.OK || slices.ContainsFunc(behind, func(i int) bool { return !could(i) }) {
					t.Fatal(c, l, won, winner, before, behind, e)
				}
			}
			if n != 0 {
				t.Fatal(c, l, won, n)
			}
		}
	}
}

// P8.13
func TestPaid(t *testing.T) {
	s := samplerOf(90)
	for range 400 {
		c, l := s.sheet(api.MaxBoxTickets)
		units, deepest, _ := box.Deepest(c, l)
		pool := s.Int63n([]int64{20, 1000, 1 << 40}[s.Intn(3)])
		least, _, e := box.Pays(c, l, pool, deepest)
		if e != api.OK || unitsBy(t, c, l, deepest) != units {
			t.Fatal(c, l, units, deepest, e)
		}
		for _, outcome := range outcomesOf(c) {
			n := unitsBy(t, c, l, outcome)
			paid, rest, e := box.Pays(c, l, pool, outcome)
			if paid*n+rest != pool || n > 0 && rest >= n || n > 0 && paid < least || paid < 0 || rest < 0 || e != api.OK {
				t.Fatal(c, l, pool, outcome, n, paid, rest, least, e)
			}
		}
	}
}

// P8.14
func TestWrong(t *testing.T) {
	s := samplerOf(91)
	for range 1000 {
		c := s.card(7776)
		one := s.ticket(c)
		last := int64(0)
		for wrong := range len(c.Runners) + 1 {
			n, e := box.Within(c, one, wrong)
			if n < last || e != api.OK || wrong == 0 && n != sizeOf(t, c, one) {
				t.Fatal(c, one, wrong, n, last, e)
			}
			last = n
		}
		if last != int64(len(outcomesOf(c))) {
			t.Fatal(c, one, last)
		}
	}
}

// P8.15
func TestJoined(t *testing.T) {
	s := samplerOf(92)
	joins := 0
	for range 2000 {
		c, d := s.card(7776), s.card(7776)
		if len(c.Runners)+len(d.Runners) > api.MaxBoxRaces {
			continue
		}
		joins++
		one, two := s.ticket(c), s.ticket(d)
		both := card(slices.Concat(c.Runners, d.Runners)...)
		joined := ticket(1, slices.Concat(one.Sets, two.Sets)...)
		if n := sizeOf(t, both, joined); n != sizeOf(t, c, one)*sizeOf(t, d, two) {
			t.Fatal(c, d, one, two, n)
		}
	}
	if joins < 200 {
		t.Error(joins)
	}
}

// someInt is any number, often one at an end.
func (s sampler) someInt() int {
	near := append(slices.Clone(farthest), -1, 0, 1, 2, 3, 5, 6, 7, 10, 11, 63, 64, 1000, 1001, 7776, 7777, 1<<32, 1<<40, 1<<40+1, 1<<62)
	if s.Intn(4) == 0 {
		return int(s.Uint64())
	}
	return near[s.Intn(len(near))]
}

func (s sampler) someList(most int) []int {
	var list []int
	for range s.Intn(most + 1) {
		list = append(list, s.someInt())
	}
	return list
}

// call is arguments of all functions.
type call struct {
	c            api.BoxCard
	tickets      []api.BoxTicket
	one          api.BoxTicket
	wrong        int
	parts        []api.BoxTicket
	pool         int64
	outcome, won []int
}

func cloneTickets(l []api.BoxTicket) []api.BoxTicket {
	var clones []api.BoxTicket
	for _, one := range l {
		clones = append(clones, ticket(one.Units, slices.Clone(one.Sets)...))
	}
	return clones
}

func (c call) clone() call {
	c.c.Runners, c.tickets, c.parts = slices.Clone(c.c.Runners), cloneTickets(c.tickets), cloneTickets(c.parts)
	c.one.Sets, c.outcome, c.won = slices.Clone(c.one.Sets), slices.Clone(c.outcome), slices.Clone(c.won)
	return c
}

// someCall is arguments of which some can be anything.
func (s sampler) someCall() call {
	odd := func() bool { return s.Intn(6) == 0 }
	c, l := s.sheet(api.MaxBoxTickets)
	all := outcomesOf(c)
	x := call{c: c, tickets: l, one: s.ticket(c), wrong: s.Intn(len(c.Runners) + 1), pool: s.Int63n(1 << 40)}
	x.outcome = slices.Clone(all[s.Intn(len(all))])
	x.won = slices.Clone(all[s.Intn(len(all))][:s.Intn(len(c.Runners)+1)])
	x.parts, _ = box.Map(c, l)
	if odd() {
		x.c.Runners = s.someList(6)
	}
	if odd() && len(x.c.Runners) > 0 {
		x.c.Runners[s.Intn(len(x.c.Runners))] = s.someInt()
	}
	if odd() {
		x.tickets = append(x.tickets, ticket(int64(s.someInt()), s.someList(6)...))
	}
	if odd() {
		x.one.Sets[s.Intn(len(x.one.Sets))] = s.someInt()
	}
	if odd() {
		x.one.Units = int64(s.someInt())
	}
	if odd() {
		x.wrong = s.someInt()
	}
	if odd() {
		x.parts[s.Intn(len(x.parts))].Sets[0] = s.someInt()
	}
	if odd() {
		x.parts = append(x.parts, ticket(int64(s.someInt()), s.someList(6)...))
	}
	if odd() {
		x.pool = int64(s.someInt())
	}
	if odd() {
		x.outcome = s.someList(6)
	}
	if odd() {
		x.won = s.someList(6)
	}
	return x
}

// answers are the results of all functions: of each its results, and at last its error.
func (c call) answers() [][]any {
	two := func(a, b any) []any { return []any{a, b} }
	three := func(a, b, c any) []any { return []any{a, b, c} }
	return [][]any{
		{box.CheckCard(c.c)}, {box.CheckTickets(c.c, c.tickets)}, two(box.Size(c.c, c.one)), two(box.Within(c.c, c.one, c.wrong)),
		{box.CheckMap(c.c, c.tickets, c.parts)}, two(box.Map(c.c, c.tickets)), two(box.Covered(c.c, c.tickets)), two(box.Open(c.c, c.tickets)),
		three(box.Deepest(c.c, c.tickets)), two(box.Idle(c.c, c.tickets)), three(box.Pays(c.c, c.tickets, c.pool, c.outcome)),
		three(box.After(c.c, c.tickets, c.won)),
	}
}

// isZero reports whether a result is what comes with an error.
func isZero(result any) bool {
	v := reflect.ValueOf(result)
	return v.IsZero() || v.Kind() == reflect.Slice && v.Len() == 0
}

// P1, R2, R4, R9, R10
func TestAnyArguments(t *testing.T) {
	s := samplerOf(93)
	for range 2000 {
		c := s.someCall()
		kept := c.clone()
		got := c.answers()
		for i, results := range got {
			last := len(results) - 1
			for _, result := range results[:last] {
				if results[last] != api.OK && !isZero(result) {
					t.Fatal(c, i, results)
				}
			}
		}
		if !reflect.DeepEqual(c.clone(), kept) {
			t.Fatal("an argument is changed", c, kept)
		}
		if again := c.answers(); !reflect.DeepEqual(got, again) {
			t.Fatal(c, got, again)
		}
	}
}

// R3
func TestNilIsEmpty(t *testing.T) {
	for _, l := range [][]api.BoxTicket{nil, {}} {
		for _, empty := range [][]int{nil, {}} {
			if e := box.CheckCard(api.BoxCard{Runners: empty}); e != api.ErrMany {
				t.Error(e)
			}
			if e := box.CheckTickets(cardC(), tickets(ticket(1, empty...))); e != api.ErrEqual {
				t.Error(e)
			}
			if _, _, e := box.Pays(cardC(), l, 0, empty); e != api.ErrEqual {
				t.Error(e)
			}
			if n, i, e := box.After(cardC(), l, empty); n != 0 || len(i) != 0 || e != api.OK {
				t.Error(n, i, e)
			}
		}
		if e := box.CheckMap(cardC(), l, l); e != api.ErrSum {
			t.Error(e)
		}
		if m, e := box.Map(cardC(), l); !isMap(cardC(), nil, m) || e != api.OK {
			t.Error(m, e)
		}
		if n, e := box.Covered(cardC(), l); n != 0 || e != api.OK {
			t.Error(n, e)
		}
		if i, e := box.Idle(cardC(), l); len(i) != 0 || e != api.OK {
			t.Error(i, e)
		}
	}
}

// keeps reports whether a call returns the same again after the list that it has returned is overwritten, and leaves the tickets alone.
func keeps(l []api.BoxTicket, ask func() []int) bool {
	kept := cloneTickets(l)
	first := ask()
	clone := slices.Clone(first)
	for i := range first {
		first[i] = -7
	}
	return len(first) > 0 && slices.Equal(ask(), clone) && reflect.DeepEqual(l, kept)
}

// R4
func TestResultsShareNoMemory(t *testing.T) {
	c, l := cardC(), ticketsC()
	won := list(0)
	for name, ask := range map[string]func() []int{
		"Open":    func() []int { o, _ := box.Open(c, l); return o },
		"Deepest": func() []int { _, o, _ := box.Deepest(c, l); return o },
		"Idle":    func() []int { i, _ := box.Idle(c, l); return i },
		"After":   func() []int { _, i, _ := box.After(c, l, won); return i },
		"Map":     func() []int { m, _ := box.Map(c, l); return m[0].Sets },
	} {
		if !keeps(l, ask) || !slices.Equal(won, list(0)) || !slices.Equal(c.Runners, list(2, 3)) {
			t.Error(name)
		}
	}
}

// R4: parts of a map share no memory with one another, nor with the tickets.
func TestPartsShareNoMemory(t *testing.T) {
	for _, x := range []struct {
		c api.BoxCard
		l []api.BoxTicket
	}{
		{cardC(), ticketsC()},
		{card(2), tickets(ticket(1, 1), ticket(1, 2))},
		{card(2, 2, 2, 2, 2), tickets(ticket(1, 1, 1, 1, 1, 1), ticket(1, 2, 2, 2, 2, 2))},
		{card(3, 3, 3), tickets(ticket(1, 1, 2, 4), ticket(1, 6, 5, 3))},
	} {
		kept := cloneTickets(x.l)
		m, e := box.Map(x.c, x.l)
		want := cloneTickets(m)
		if e != api.OK || len(m) < 2 {
			t.Fatal(x, m, e)
		}
		for i := range m {
			if !reflect.DeepEqual(m[i].Sets, want[i].Sets) {
				t.Fatal(x, i)
			}
			whole := m[i].Sets[:cap(m[i].Sets)]
			for at := range whole {
				whole[at] = -1
			}
		}
		if !reflect.DeepEqual(x.l, kept) {
			t.Error(x, "a ticket is changed")
		}
	}
}

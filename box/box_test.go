package box_test

import (
	"math"
	"slices"
	"testing"

	"quinella/api"
	"quinella/box"
)

func card(runners ...int) api.BoxCard { return api.BoxCard{Runners: runners} }

func ticket(units int64, sets ...int) api.BoxTicket { return api.BoxTicket{Sets: sets, Units: units} }

func tickets(several ...api.BoxTicket) []api.BoxTicket { return several }

func list(numbers ...int) []int { return numbers }

// cardC and ticketsC are those of the chapter's examples.
func cardC() api.BoxCard { return card(2, 3) }
func ticketsC() []api.BoxTicket {
	return tickets(ticket(1, 3, 1), ticket(2, 1, 6), ticket(4, 1, 1))
}

// full is the card with the most outcomes.
func full() api.BoxCard { return card(6, 6, 6, 6, 6) }

// fullTickets tell all runners of all races of full from one another, so that each part of a map has one outcome.
func fullTickets() []api.BoxTicket {
	l := tickets(ticket(1000, 63, 63, 63, 63, 63))
	for bit, set := range list(42, 12, 48) {
		t := ticket(int64(bit)+1, 63, 63, 63, 63, 63)
		for race := range t.Sets {
			t.Sets[race] = set
		}
		l = append(l, t)
	}
	return l
}

// singles are all outcomes of a card, each of them as a part without Units.
func singles(c api.BoxCard) []api.BoxTicket {
	parts := tickets(ticket(0))
	for _, runners := range c.Runners {
		var longer []api.BoxTicket
		for _, p := range parts {
			for runner := range runners {
				longer = append(longer, ticket(0, append(slices.Clone(p.Sets), 1<<runner)...))
			}
		}
		parts = longer
	}
	return parts
}

// farthest are numbers at the ends of their type.
var farthest = []int{math.MinInt64, math.MinInt64 + 1, math.MinInt32, math.MaxInt32, math.MaxInt64 - 1, math.MaxInt64}

type badCard struct {
	c api.BoxCard
	e api.Errno
}

// badCards are cards that are not valid, and their errors.
func badCards() []badCard {
	bad := []badCard{
		{api.BoxCard{}, api.ErrMany},
		{card(), api.ErrMany},
		{api.BoxCard{Runners: []int{}}, api.ErrMany},
		{card(1, 1, 1, 1, 1, 1), api.ErrMany},
		{card(6, 6, 6, 6, 6, 6), api.ErrMany},
		{card(0, 0, 0, 0, 0, 0), api.ErrMany},
		{card(6, 6, 6, 6, 6, 7), api.ErrMany},
		{api.BoxCard{Runners: make([]int, 1000)}, api.ErrMany},
		{card(0), api.ErrRange},
		{card(7), api.ErrRange},
		{card(-1), api.ErrRange},
		{card(8), api.ErrRange},
		{card(0, 2), api.ErrRange},
		{card(2, 0), api.ErrRange},
		{card(7, 3), api.ErrRange},
		{card(2, 7), api.ErrRange},
		{card(2, -3), api.ErrRange},
		{card(6, 6, 6, 6, 7), api.ErrRange},
		{card(6, 6, 0, 6, 6), api.ErrRange},
		{card(0, 0, 0, 0, 0), api.ErrRange},
	}
	for _, n := range farthest {
		bad = append(bad, badCard{card(n), api.ErrRange}, badCard{card(2, n), api.ErrRange}, badCard{card(n, 3), api.ErrRange})
	}
	return bad
}

type badTickets struct {
	l []api.BoxTicket
	e api.Errno
}

// badBoxes are tickets that are not valid for the card C.
func badBoxes() []badTickets {
	return []badTickets{
		{tickets(ticket(1)), api.ErrEqual},
		{tickets(ticket(1, 3)), api.ErrEqual},
		{tickets(ticket(1, 3, 7, 1)), api.ErrEqual},
		{tickets(ticket(1, 3, 7, 0)), api.ErrEqual},
		{tickets(ticket(1, 3, 7, 3, 7)), api.ErrEqual},
		{tickets(ticket(1, 9)), api.ErrEqual},
		{tickets(ticket(1, 0, 0, 0)), api.ErrEqual},
		{tickets(ticket(-1, 9)), api.ErrEqual},
		{tickets(ticket(1, 3, 7), ticket(1, 3)), api.ErrEqual},
		{tickets(ticket(1, 3), ticket(1, 3, 7)), api.ErrEqual},
		{tickets(ticket(1, 0, 7), ticket(1, 3)), api.ErrEqual},
		{tickets(ticket(-1, 3, 7), ticket(1)), api.ErrEqual},
		{tickets(ticket(1, 3, 8), ticket(1, 3, 7), ticket(1, 3, 7, 1)), api.ErrEqual},
		{tickets(ticket(1, 0, 7)), api.ErrRange},
		{tickets(ticket(1, 3, 0)), api.ErrRange},
		{tickets(ticket(1, 4, 7)), api.ErrRange},
		{tickets(ticket(1, 3, 8)), api.ErrRange},
		{tickets(ticket(1, 7, 3)), api.ErrRange},
		{tickets(ticket(1, -1, 7)), api.ErrRange},
		{tickets(ticket(1, 3, -1)), api.ErrRange},
		{tickets(ticket(1, 3, -8)), api.ErrRange},
		{tickets(ticket(1, 5, 7)), api.ErrRange},
		{tickets(ticket(-1, 3, 7)), api.ErrRange},
		{tickets(ticket(1, 3, 7), ticket(1, 3, 8)), api.ErrRange},
		{tickets(ticket(1, 3, 8), ticket(1, 3, 7)), api.ErrRange},
		{tickets(ticket(1, 3, 7), ticket(1, 3, 7), ticket(-1, 3, 7)), api.ErrRange},
		{tickets(ticket(math.MinInt64, 3, 7)), api.ErrRange},
	}
}

// badTicketsC are tickets that are not valid for the card C, and their errors.
func badTicketsC() []badTickets {
	bad := append(badBoxes(),
		badTickets{slices.Repeat(tickets(ticket(1, 3, 7)), 11), api.ErrMany},
		badTickets{slices.Repeat(tickets(ticket(1)), 11), api.ErrMany},
		badTickets{slices.Repeat(tickets(ticket(0, 0, 9)), 11), api.ErrMany},
		badTickets{make([]api.BoxTicket, 1000), api.ErrMany},
		badTickets{make([]api.BoxTicket, 10), api.ErrEqual},
		badTickets{append(slices.Repeat(tickets(ticket(1, 3, 7)), 9), ticket(1, 3)), api.ErrEqual},
		badTickets{append(slices.Repeat(tickets(ticket(1, 3, 7)), 9), ticket(1, 3, 8)), api.ErrRange},
		badTickets{append(slices.Repeat(tickets(ticket(1, 3, 7)), 9), ticket(0, 3, 7)), api.ErrRange},
		badTickets{tickets(ticket(0, 3, 7)), api.ErrRange},
		badTickets{tickets(ticket(1001, 3, 7)), api.ErrRange},
		badTickets{tickets(ticket(1, 3, 7), ticket(1001, 3, 7)), api.ErrRange},
		badTickets{tickets(ticket(math.MaxInt64, 3, 7)), api.ErrRange},
		badTickets{tickets(ticket(1<<32+1, 3, 7)), api.ErrRange},
	)
	for _, n := range farthest {
		bad = append(bad, badTickets{tickets(ticket(1, n, 7)), api.ErrRange}, badTickets{tickets(ticket(1, 3, n)), api.ErrRange})
		bad = append(bad, badTickets{tickets(ticket(1, n)), api.ErrEqual})
	}
	return bad
}

// P8.1
func TestCheckCard(t *testing.T) {
	for i, c := range []api.BoxCard{
		cardC(), full(), card(1), card(2), card(6), card(1, 1), card(1, 1, 1, 1, 1), card(6, 1), card(1, 6), card(1, 2, 3, 4, 5), card(6, 5, 4, 3), card(3, 3, 3),
	} {
		if e := box.CheckCard(c); e != api.OK {
			t.Error(i, c, e)
		}
	}
	for i, x := range badCards() {
		if e := box.CheckCard(x.c); e != x.e {
			t.Error(i, x.c, e)
		}
	}
}

// P8.1
func TestCheckTickets(t *testing.T) {
	for i, x := range []struct {
		c api.BoxCard
		l []api.BoxTicket
	}{
		{cardC(), ticketsC()},
		{cardC(), nil},
		{full(), fullTickets()},
		{cardC(), tickets(ticket(1, 1, 1), ticket(1000, 3, 7), ticket(500, 2, 4))},
		{cardC(), slices.Repeat(tickets(ticket(1000, 3, 7)), 10)},
		{card(1), tickets(ticket(1, 1))},
		{card(6), tickets(ticket(1, 63), ticket(1, 32), ticket(1, 1))},
		{card(1, 2, 3, 4, 5), tickets(ticket(1, 1, 3, 7, 15, 31), ticket(1, 1, 1, 1, 1, 1), ticket(1, 1, 2, 4, 8, 16))},
	} {
		if e := box.CheckTickets(x.c, x.l); e != api.OK {
			t.Error(i, x.c, x.l, e)
		}
	}
	for i, x := range badTicketsC() {
		if e := box.CheckTickets(cardC(), x.l); e != x.e {
			t.Error(i, x.l, e)
		}
	}
	for i, x := range []struct {
		c    api.BoxCard
		sets []int
	}{
		{card(1), list(2)}, {card(1), list(0)}, {card(6), list(64)}, {card(6), list(0)}, {card(5), list(32)}, {card(4), list(16)}, {card(3), list(8)}, {card(2), list(4)},
		{full(), list(63, 63, 63, 63, 64)}, {full(), list(64, 63, 63, 63, 63)}, {full(), list(63, 63, 0, 63, 63)}, {card(1, 6), list(6, 1)}, {card(6, 1), list(1, 6)},
	} {
		if e := box.CheckTickets(x.c, tickets(ticket(1, x.sets...))); e != api.ErrRange {
			t.Error(i, x.c, x.sets, e)
		}
	}
}

// failsWith reports whether all functions that take a card and tickets return an error, and nothing beside it.
func failsWith(t *testing.T, c api.BoxCard, l []api.BoxTicket, want api.Errno) {
	t.Helper()
	if e := box.CheckTickets(c, l); e != want {
		t.Error("CheckTickets", c, l, e)
	}
	for _, parts := range [][]api.BoxTicket{nil, tickets(ticket(-1)), make([]api.BoxTicket, api.MaxBoxParts+1)} {
		if e := box.CheckMap(c, l, parts); e != want {
			t.Error("CheckMap", c, l, e)
		}
	}
	if m, e := box.Map(c, l); len(m) != 0 || e != want {
		t.Error("Map", c, l, m, e)
	}
	if n, e := box.Covered(c, l); n != 0 || e != want {
		t.Error("Covered", c, l, n, e)
	}
	if o, e := box.Open(c, l); len(o) != 0 || e != want {
		t.Error("Open", c, l, o, e)
	}
	if n, o, e := box.Deepest(c, l); n != 0 || len(o) != 0 || e != want {
		t.Error("Deepest", c, l, n, o, e)
	}
	if i, e := box.Idle(c, l); len(i) != 0 || e != want {
		t.Error("Idle", c, l, i, e)
	}
	for _, outcome := range [][]int{nil, list(0, 0), list(9, 9)} {
		for _, pool := range []int64{-1, 0, 100, api.MaxNumber + 1} {
			if p, r, e := box.Pays(c, l, pool, outcome); p != 0 || r != 0 || e != want {
				t.Error("Pays", c, l, p, r, e)
			}
		}
	}
	for _, won := range [][]int{nil, list(0), list(9), list(9, 9, 9, 9, 9, 9)} {
		if n, l, e := box.After(c, l, won); n != 0 || len(l) != 0 || e != want {
			t.Error("After", c, l, n, l, e)
		}
	}
}

// failsWithOne is failsWith for the functions that take one ticket.
func failsWithOne(t *testing.T, c api.BoxCard, one api.BoxTicket, want api.Errno) {
	t.Helper()
	if n, e := box.Size(c, one); n != 0 || e != want {
		t.Error("Size", c, one, n, e)
	}
	for _, wrong := range list(-1, 0, 1, 9) {
		if n, e := box.Within(c, one, wrong); n != 0 || e != want {
			t.Error("Within", c, one, n, e)
		}
	}
}

// P8.1: all functions return the error of CheckCard before all others, and nothing with it.
func TestBadCards(t *testing.T) {
	for _, x := range badCards() {
		for _, l := range [][]api.BoxTicket{nil, ticketsC(), tickets(ticket(0)), tickets(ticket(1, 0, 0)), make([]api.BoxTicket, 11)} {
			failsWith(t, x.c, l, x.e)
		}
		failsWithOne(t, x.c, ticket(1, 1, 1), x.e)
		failsWithOne(t, x.c, ticket(0), x.e)
	}
}

// P8.1: all functions that have tickets return the error of CheckTickets before all others but that of CheckCard.
func TestBadTickets(t *testing.T) {
	for _, x := range badTicketsC() {
		failsWith(t, cardC(), x.l, x.e)
		if len(x.l) == 1 {
			failsWithOne(t, cardC(), x.l[0], x.e)
		}
	}
}

// P8.2
func TestSizeAndWithin(t *testing.T) {
	for i, x := range []struct {
		c      api.BoxCard
		sets   []int
		within []int64 // for 0, 1, and so on up to all races
	}{
		{cardC(), list(3, 1), []int64{2, 6, 6}},
		{cardC(), list(1, 6), []int64{2, 5, 6}},
		{cardC(), list(1, 1), []int64{1, 4, 6}},
		{cardC(), list(3, 7), []int64{6, 6, 6}},
		{card(1), list(1), []int64{1, 1}},
		{card(6), list(1), []int64{1, 6}},
		{card(6), list(32), []int64{1, 6}},
		{card(6), list(63), []int64{6, 6}},
		{card(6), list(41), []int64{3, 6}},
		{card(1, 1, 1, 1, 1), list(1, 1, 1, 1, 1), []int64{1, 1, 1, 1, 1, 1}},
		{card(2, 2, 2, 2, 2), list(1, 2, 1, 2, 1), []int64{1, 6, 16, 26, 31, 32}},
		{card(4, 2, 1), list(5, 2, 1), []int64{2, 6, 8, 8}},
		{card(5, 1, 6), list(16, 1, 33), []int64{2, 14, 30, 30}},
		{card(3, 3, 3), list(3, 5, 6), []int64{8, 20, 26, 27}},
		{full(), list(63, 63, 63, 63, 63), []int64{7776, 7776, 7776, 7776, 7776, 7776}},
		{full(), list(1, 2, 4, 8, 16), []int64{1, 26, 276, 1526, 4651, 7776}},
		{full(), list(62, 31, 61, 47, 55), []int64{3125, 6250, 7500, 7750, 7775, 7776}},
		{full(), list(1, 3, 7, 15, 31), []int64{120, 1164, 3888, 6612, 7656, 7776}},
	} {
		for _, units := range []int64{1, 1000} {
			one := ticket(units, x.sets...)
			if n, e := box.Size(x.c, one); n != x.within[0] || e != api.OK {
				t.Error(i, one, n, e)
			}
			for wrong, want := range x.within {
				if n, e := box.Within(x.c, one, wrong); n != want || e != api.OK {
					t.Error(i, one, wrong, n, e)
				}
			}
			for _, wrong := range append(list(-1, -2, len(x.within), len(x.within)+1, 6, 7), farthest...) {
				if n, e := box.Within(x.c, one, wrong); n != 0 || e != api.ErrRange {
					t.Error(i, one, wrong, n, e)
				}
			}
		}
	}
}

// P8.3
func TestCheckMap(t *testing.T) {
	whole := tickets(ticket(5, 1, 1), ticket(2, 1, 6), ticket(1, 2, 1), ticket(0, 2, 6))
	for i, x := range []struct {
		parts []api.BoxTicket
		e     api.Errno
	}{
		{whole, api.OK},
		{tickets(whole[3], whole[1], whole[0], whole[2]), api.OK},
		{tickets(ticket(5, 1, 1), ticket(2, 1, 4), ticket(2, 1, 2), ticket(1, 2, 1), ticket(0, 2, 6)), api.OK},
		{tickets(ticket(5, 1, 1), ticket(2, 1, 4), ticket(2, 1, 2), ticket(1, 2, 1), ticket(0, 2, 2), ticket(0, 2, 4)), api.OK},
		{whole[:3], api.ErrSum},
		{whole[1:], api.ErrSum},
		{whole[:1], api.ErrSum},
		{nil, api.ErrSum},
		{tickets(), api.ErrSum},
		{tickets(whole[0], whole[1], whole[2], ticket(0, 2, 4)), api.ErrSum},
		{tickets(whole[0], whole[1], whole[2], ticket(1, 2, 6)), api.ErrSum},
		{tickets(ticket(4, 1, 1), whole[1], whole[2], whole[3]), api.ErrSum},
		{tickets(ticket(1, 1, 1), whole[1], whole[2], whole[3]), api.ErrSum},
		{tickets(ticket(0, 1, 1), whole[1], whole[2], whole[3]), api.ErrSum},
		{tickets(ticket(1<<32+5, 1, 1), whole[1], whole[2], whole[3]), api.ErrSum},
		{tickets(ticket(math.MaxInt64, 1, 1), whole[1], whole[2], whole[3]), api.ErrSum},
		{tickets(ticket(5, 3, 1), whole[1], whole[3]), api.ErrRule},
		{tickets(whole[0], whole[1], ticket(1, 2, 7)), api.ErrRule},
		{tickets(ticket(9, 3, 7)), api.ErrRule},
		{tickets(ticket(9, 1, 7)), api.ErrRule},
		{tickets(ticket(5, 1, 3), ticket(0, 2, 7)), api.ErrRule},
		{append(slices.Clone(whole), ticket(0, 2, 2)), api.ErrHave},
		{append(slices.Clone(whole), whole[3]), api.ErrHave},
		{tickets(whole[0], whole[0]), api.ErrHave},
		{tickets(ticket(9, 3, 7), ticket(9, 3, 7)), api.ErrHave},
		{tickets(ticket(9, 3, 7), ticket(9, 1, 1)), api.ErrHave},
		{tickets(ticket(5, 3, 1), ticket(2, 2, 7)), api.ErrHave},
		{tickets(whole[0], ticket(2, 1, 7)), api.ErrHave},
		{tickets(ticket(5, 1, 1), ticket(2, 1)), api.ErrEqual},
		{tickets(ticket(5, 1, 1, 1)), api.ErrEqual},
		{tickets(ticket(5)), api.ErrEqual},
		{tickets(whole[0], whole[0], ticket(5, 1)), api.ErrEqual},
		{tickets(ticket(-5, 1, 9), ticket(5, 1)), api.ErrEqual},
		{tickets(ticket(5, 0, 1), ticket(5, 1, 1, 1)), api.ErrEqual},
		{tickets(ticket(5, 1, 8), ticket(2, 1, 1)), api.ErrRange},
		{tickets(ticket(2, 1, 1), ticket(5, 4, 1)), api.ErrRange},
		{tickets(ticket(2, 1, 1), ticket(5, 0, 1)), api.ErrRange},
		{tickets(ticket(2, 1, 1), ticket(5, 1, 0)), api.ErrRange},
		{tickets(ticket(2, 1, 1), ticket(5, 1, -1)), api.ErrRange},
		{tickets(ticket(-5, 1, 1), ticket(2, 1, 1)), api.ErrRange},
		{tickets(ticket(2, 1, 1), ticket(2, 1, 1), ticket(-1, 1, 1)), api.ErrRange},
		{tickets(whole[0], whole[1], whole[2], ticket(-1, 2, 6)), api.ErrRange},
		{tickets(ticket(math.MinInt64, 3, 7)), api.ErrRange},
		{slices.Repeat(whole, 1944), api.ErrHave},
		{append(slices.Repeat(whole, 1944), ticket(0, 2, 6)), api.ErrMany},
		{make([]api.BoxTicket, 7776), api.ErrEqual},
		{make([]api.BoxTicket, 7777), api.ErrMany},
		{make([]api.BoxTicket, 100000), api.ErrMany},
	} {
		if e := box.CheckMap(cardC(), ticketsC(), x.parts); e != x.e {
			t.Error(i, e)
		}
	}
	for _, n := range farthest {
		for _, parts := range [][]api.BoxTicket{tickets(ticket(1, n, 1)), tickets(ticket(1, 1, n)), tickets(ticket(1, 1, 1), ticket(1, 1, n))} {
			if e := box.CheckMap(cardC(), ticketsC(), parts); e != api.ErrRange {
				t.Error(parts, e)
			}
		}
	}
}

// P8.3: tickets that win with all outcomes, or of which there are none, and the greatest units and the most parts that can be.
func TestCheckMapAtLimits(t *testing.T) {
	most := slices.Repeat(tickets(ticket(1000, 3, 7)), 10)
	none := singles(full())
	doubled := append(slices.Clone(none[:7775]), none[0])
	for i, x := range []struct {
		c        api.BoxCard
		l, parts []api.BoxTicket
		e        api.Errno
	}{
		{cardC(), nil, tickets(ticket(0, 3, 7)), api.OK},
		{cardC(), nil, tickets(ticket(0, 1, 7), ticket(0, 2, 3), ticket(0, 2, 4)), api.OK},
		{cardC(), nil, tickets(ticket(1, 3, 7)), api.ErrSum},
		{cardC(), nil, nil, api.ErrSum},
		{cardC(), most, tickets(ticket(10000, 3, 7)), api.OK},
		{cardC(), most, tickets(ticket(10000, 1, 7), ticket(10000, 2, 7)), api.OK},
		{cardC(), most, tickets(ticket(1000, 3, 7)), api.ErrSum},
		{cardC(), most, tickets(ticket(9999, 3, 7)), api.ErrSum},
		{cardC(), most, tickets(ticket(10001, 3, 7)), api.ErrSum},
		{card(1), nil, tickets(ticket(0, 1)), api.OK},
		{card(1), tickets(ticket(3, 1)), tickets(ticket(3, 1)), api.OK},
		{card(1), tickets(ticket(3, 1)), nil, api.ErrSum},
		{full(), nil, none, api.OK},
		{full(), nil, none[1:], api.ErrSum},
		{full(), nil, none[:7775], api.ErrSum},
		{full(), nil, doubled, api.ErrHave},
		{full(), nil, append(slices.Clone(none), none[0]), api.ErrMany},
		{full(), tickets(ticket(1, 1, 1, 1, 1, 1)), none, api.ErrSum},
		{full(), tickets(ticket(1, 32, 32, 32, 32, 32)), append(slices.Clone(none[:7775]), ticket(1, 32, 32, 32, 32, 32)), api.OK},
	} {
		if e := box.CheckMap(x.c, x.l, x.parts); e != x.e {
			t.Error(i, e)
		}
	}
}

// isMap reports whether parts are a map, by what a map is said to be.
func isMap(c api.BoxCard, l, parts []api.BoxTicket) bool {
	units := map[[5]int]int64{}
	for _, single := range singles(c) {
		units[[5]int(append(single.Sets, 0, 0, 0, 0)[:5])] = unitsOf(l, winners(single.Sets))
	}
	for _, p := range parts {
		if p.Units < 0 || len(p.Sets) != len(c.Runners) {
			return false
		}
		wins := map[string]bool{}
		for _, single := range singles(c) {
			key := [5]int(append(single.Sets, 0, 0, 0, 0)[:5])
			outcome := winners(single.Sets)
			if !hasAll(p.Sets, outcome) {
				continue
			}
			if n, left := units[key]; !left || n != p.Units {
				return false
			}
			delete(units, key)
			win := ""
			for _, one := range l {
				win += map[bool]string{false: "-", true: "+"}[hasAll(one.Sets, outcome)]
			}
			wins[win] = true
		}
		if len(wins) != 1 {
			return false
		}
	}
	return len(units) == 0
}

// P8.3
func TestMap(t *testing.T) {
	for i, x := range []struct {
		c api.BoxCard
		l []api.BoxTicket
	}{
		{cardC(), ticketsC()},
		{cardC(), nil},
		{cardC(), tickets(ticket(7, 3, 7))},
		{cardC(), slices.Repeat(tickets(ticket(1000, 3, 7)), 10)},
		{cardC(), slices.Repeat(tickets(ticket(1000, 1, 2)), 10)},
		{card(1), nil},
		{card(1), tickets(ticket(2, 1))},
		{card(6), tickets(ticket(1, 1), ticket(1, 3), ticket(1, 7), ticket(1, 15), ticket(1, 31))},
		{card(6), tickets(ticket(1, 42), ticket(1, 12), ticket(1, 48))},
		{card(1, 2, 3, 4, 5), tickets(ticket(1, 1, 3, 7, 15, 31), ticket(2, 1, 1, 1, 1, 1), ticket(3, 1, 2, 4, 8, 16))},
		{card(2, 1, 3, 1), tickets(ticket(1, 1, 1, 5, 1), ticket(2, 3, 1, 4, 1), ticket(3, 2, 1, 3, 1))},
	} {
		m, e := box.Map(x.c, x.l)
		if e != api.OK || !isMap(x.c, x.l, m) || box.CheckMap(x.c, x.l, m) != api.OK {
			t.Error(i, x.c, x.l, m, e)
		}
	}
}

// P8.3: a map with as many parts as can be.
func TestGreatestMap(t *testing.T) {
	m, e := box.Map(full(), fullTickets())
	if e != api.OK || len(m) != api.MaxBoxParts {
		t.Fatal(len(m), e)
	}
	if e := box.CheckMap(full(), fullTickets(), m); e != api.OK {
		t.Error(e)
	}
	if n, e := box.Covered(full(), fullTickets()); n != 7776 || e != api.OK {
		t.Error(n, e)
	}
	if e := box.CheckMap(full(), fullTickets(), m[1:]); e != api.ErrSum {
		t.Error(e)
	}
	m[7775].Sets[4] = 63
	if e := box.CheckMap(full(), fullTickets(), m); e != api.ErrHave {
		t.Error(e)
	}
}

// P8.4, P8.5
func TestCoveredOpenDeepestIdle(t *testing.T) {
	for i, x := range []struct {
		c       api.BoxCard
		l       []api.BoxTicket
		covered int64
		open    []int // none if some ticket wins with each outcome
		deepest int64
		at      []int
		idle    []int
	}{
		{cardC(), ticketsC(), 4, list(1, 1), 5, list(0, 0), list(2)},
		{cardC(), nil, 0, list(0, 0), 0, list(0, 0), nil},
		{cardC(), tickets(ticket(3, 3, 7)), 6, nil, 3, list(0, 0), nil},
		{cardC(), tickets(ticket(3, 3, 7), ticket(3, 3, 7)), 6, nil, 6, list(0, 0), list(0, 1)},
		{cardC(), tickets(ticket(1, 1, 1), ticket(3, 3, 7)), 6, nil, 4, list(0, 0), list(0)},
		{cardC(), tickets(ticket(1, 3, 7), ticket(3, 2, 4)), 6, nil, 4, list(1, 2), list(1)},
		{cardC(), tickets(ticket(3, 1, 7), ticket(2, 2, 7), ticket(9, 3, 4)), 6, nil, 12, list(0, 2), list(2)},
		{cardC(), tickets(ticket(2, 1, 7), ticket(3, 2, 7), ticket(9, 3, 4)), 6, nil, 12, list(1, 2), list(2)},
		{cardC(), tickets(ticket(5, 2, 4)), 1, list(0, 0), 5, list(1, 2), nil},
		{cardC(), tickets(ticket(5, 2, 4), ticket(5, 1, 2)), 2, list(0, 0), 5, list(0, 1), nil},
		{cardC(), tickets(ticket(5, 3, 3), ticket(5, 1, 4)), 5, list(1, 2), 5, list(0, 0), nil},
		{cardC(), tickets(ticket(5, 3, 3), ticket(6, 1, 4)), 5, list(1, 2), 6, list(0, 2), nil},
		{cardC(), tickets(ticket(5, 1, 7), ticket(5, 2, 4)), 4, list(1, 0), 5, list(0, 0), nil},
		{cardC(), tickets(ticket(5, 1, 3), ticket(5, 2, 4)), 3, list(0, 2), 5, list(0, 0), nil},
		// Together the first two have all that the third one has.
		{card(4), tickets(ticket(1, 3), ticket(1, 12), ticket(1, 6)), 4, nil, 2, list(1), list(2)},
		// Each one is idle, but not all of them together.
		{card(3), tickets(ticket(1, 3), ticket(1, 6), ticket(1, 5)), 3, nil, 2, list(0), list(0, 1, 2)},
		{card(2), slices.Repeat(tickets(ticket(1000, 2)), 10), 1, list(0), 10000, list(1), list(0, 1, 2, 3, 4, 5, 6, 7, 8, 9)},
		{card(3, 3, 3), tickets(ticket(1, 1, 7, 7), ticket(1, 7, 1, 7), ticket(1, 7, 7, 1)), 19, list(1, 1, 1), 3, list(0, 0, 0), nil},
		{card(2, 2), tickets(ticket(1, 1, 3), ticket(1, 2, 1)), 3, list(1, 1), 1, list(0, 0), nil},
		{card(1, 1), tickets(ticket(7, 1, 1)), 1, nil, 7, list(0, 0), nil},
		{card(1), nil, 0, list(0), 0, list(0), nil},
		{card(1), tickets(ticket(7, 1), ticket(1, 1)), 1, nil, 8, list(0), list(0, 1)},
		{full(), nil, 0, list(0, 0, 0, 0, 0), 0, list(0, 0, 0, 0, 0), nil},
		{full(), tickets(ticket(1, 62, 63, 63, 63, 63), ticket(2, 63, 32, 32, 32, 32)), 6481, list(0, 0, 0, 0, 0), 3, list(1, 5, 5, 5, 5), nil},
		{full(), tickets(ticket(1, 31, 63, 63, 63, 63), ticket(2, 32, 31, 63, 63, 63), ticket(3, 32, 32, 31, 63, 63), ticket(4, 32, 32, 32, 31, 63), ticket(5, 32, 32, 32, 32, 31)), 7775, list(5, 5, 5, 5, 5), 5, list(5, 5, 5, 5, 0), nil},
		{full(), tickets(ticket(1, 31, 63, 63, 63, 63), ticket(2, 32, 31, 63, 63, 63), ticket(3, 32, 32, 31, 63, 63), ticket(4, 32, 32, 32, 31, 63), ticket(5, 32, 32, 32, 32, 63)), 7776, nil, 5, list(5, 5, 5, 5, 0), nil},
		{full(), tickets(ticket(1000, 32, 32, 32, 32, 32), ticket(1000, 63, 63, 63, 63, 63)), 7776, nil, 2000, list(5, 5, 5, 5, 5), list(0)},
	} {
		if n, e := box.Covered(x.c, x.l); n != x.covered || e != api.OK {
			t.Error(i, "Covered", n, e)
		}
		want := api.OK
		if len(x.open) == 0 {
			want = api.ErrNone
		}
		if o, e := box.Open(x.c, x.l); !slices.Equal(o, x.open) || e != want {
			t.Error(i, "Open", o, e)
		}
		if n, at, e := box.Deepest(x.c, x.l); n != x.deepest || !slices.Equal(at, x.at) || e != api.OK {
			t.Error(i, "Deepest", n, at, e)
		}
		if l, e := box.Idle(x.c, x.l); !slices.Equal(l, x.idle) || e != api.OK {
			t.Error(i, "Idle", l, e)
		}
	}
}

// P8.6
func TestPays(t *testing.T) {
	const most = 1 << 40
	dear := slices.Repeat(tickets(ticket(1000, 3, 7)), 10)
	for i, x := range []struct {
		l          []api.BoxTicket
		pool       int64
		outcome    []int
		paid, rest int64
		e          api.Errno
	}{
		{ticketsC(), 103, list(0, 0), 20, 3, api.OK},
		{ticketsC(), 103, list(0, 1), 51, 1, api.OK},
		{ticketsC(), 103, list(0, 2), 51, 1, api.OK},
		{ticketsC(), 103, list(1, 0), 103, 0, api.OK},
		{ticketsC(), 103, list(1, 1), 0, 103, api.OK},
		{ticketsC(), 103, list(1, 2), 0, 103, api.OK},
		{ticketsC(), 4, list(0, 0), 0, 4, api.OK},
		{ticketsC(), 5, list(0, 0), 1, 0, api.OK},
		{ticketsC(), 0, list(0, 0), 0, 0, api.OK},
		{ticketsC(), 0, list(1, 1), 0, 0, api.OK},
		{ticketsC(), most, list(1, 0), most, 0, api.OK},
		{ticketsC(), most, list(1, 2), 0, most, api.OK},
		{ticketsC(), most, list(0, 0), 219902325555, 1, api.OK},
		{nil, 103, list(0, 0), 0, 103, api.OK},
		{nil, most, list(1, 2), 0, most, api.OK},
		{dear, most, list(1, 2), 109951162, 7776, api.OK},
		{dear, 9999, list(1, 2), 0, 9999, api.OK},
		{dear, 10000, list(1, 2), 1, 0, api.OK},
		{ticketsC(), most + 1, list(1, 0), 0, 0, api.ErrRange},
		{ticketsC(), most + 1, list(1, 1), 0, 0, api.ErrRange},
		{ticketsC(), math.MaxInt64, list(1, 0), 0, 0, api.ErrRange},
		{ticketsC(), math.MinInt64, list(1, 0), 0, 0, api.ErrRange},
		{ticketsC(), -1, list(1, 0), 0, 0, api.ErrRange},
		{ticketsC(), -1, list(1), 0, 0, api.ErrRange},
		{ticketsC(), most + 1, nil, 0, 0, api.ErrRange},
		{ticketsC(), 1, nil, 0, 0, api.ErrEqual},
		{ticketsC(), 1, list(1), 0, 0, api.ErrEqual},
		{ticketsC(), 1, list(9), 0, 0, api.ErrEqual},
		{ticketsC(), 1, list(0, 0, 0), 0, 0, api.ErrEqual},
		{ticketsC(), 1, list(9, 9, 9), 0, 0, api.ErrEqual},
		{ticketsC(), 1, make([]int, 1000), 0, 0, api.ErrEqual},
		{ticketsC(), 1, list(2, 0), 0, 0, api.ErrRange},
		{ticketsC(), 1, list(0, 3), 0, 0, api.ErrRange},
		{ticketsC(), 1, list(2, 1), 0, 0, api.ErrRange},
		{ticketsC(), 1, list(0, -1), 0, 0, api.ErrRange},
		{ticketsC(), 1, list(-1, 0), 0, 0, api.ErrRange},
		{nil, 1, list(0, 3), 0, 0, api.ErrRange},
	} {
		if p, r, e := box.Pays(cardC(), x.l, x.pool, x.outcome); p != x.paid || r != x.rest || e != x.e {
			t.Error(i, p, r, e)
		}
	}
	for _, n := range farthest {
		for _, outcome := range [][]int{list(n, 0), list(0, n), list(n, n)} {
			if p, r, e := box.Pays(cardC(), ticketsC(), 1, outcome); p != 0 || r != 0 || e != api.ErrRange {
				t.Error(outcome, p, r, e)
			}
		}
	}
}

// P8.6
func TestAfter(t *testing.T) {
	for i, x := range []struct {
		won   []int
		n     int64
		alive []int
		e     api.Errno
	}{
		{nil, 4, list(0, 1, 2), api.OK},
		{list(), 4, list(0, 1, 2), api.OK},
		{list(0), 3, list(0, 1, 2), api.OK},
		{list(1), 1, list(0), api.OK},
		{list(0, 0), 1, list(0, 2), api.OK},
		{list(0, 1), 1, list(1), api.OK},
		{list(0, 2), 1, list(1), api.OK},
		{list(1, 0), 1, list(0), api.OK},
		{list(1, 1), 0, nil, api.OK},
		{list(1, 2), 0, nil, api.OK},
		{list(2), 0, nil, api.ErrRange},
		{list(-1), 0, nil, api.ErrRange},
		{list(0, 3), 0, nil, api.ErrRange},
		{list(2, 0), 0, nil, api.ErrRange},
		{list(0, -1), 0, nil, api.ErrRange},
		{list(9, 9), 0, nil, api.ErrRange},
		{list(0, 0, 0), 0, nil, api.ErrMany},
		{list(9, 9, 9), 0, nil, api.ErrMany},
		{make([]int, 1000), 0, nil, api.ErrMany},
	} {
		if n, l, e := box.After(cardC(), ticketsC(), x.won); n != x.n || !slices.Equal(l, x.alive) || e != x.e {
			t.Error(i, x.won, n, l, e)
		}
	}
	for _, n := range farthest {
		for _, won := range [][]int{list(n), list(n, 0), list(0, n)} {
			if n, l, e := box.After(cardC(), ticketsC(), won); n != 0 || len(l) != 0 || e != api.ErrRange {
				t.Error(won, n, l, e)
			}
		}
	}
	l := tickets(ticket(1, 62, 63, 63, 63, 63), ticket(2, 63, 32, 32, 32, 32))
	for i, x := range []struct {
		won   []int
		n     int64
		alive []int
	}{
		{nil, 6481, list(0, 1)},
		{list(0), 1, list(1)},
		{list(5), 1296, list(0, 1)},
		{list(5, 4), 216, list(0)},
		{list(0, 5), 1, list(1)},
		{list(0, 4), 0, nil},
		{list(1, 5, 5, 5), 6, list(0, 1)},
		{list(1, 5, 5, 5, 5), 1, list(0, 1)},
		{list(0, 5, 5, 5, 5), 1, list(1)},
		{list(0, 5, 5, 5, 4), 0, nil},
	} {
		if n, alive, e := box.After(full(), l, x.won); n != x.n || !slices.Equal(alive, x.alive) || e != api.OK {
			t.Error(i, x.won, n, alive, e)
		}
	}
	if n, alive, e := box.After(full(), nil, list(0, 1)); n != 0 || len(alive) != 0 || e != api.OK {
		t.Error(n, alive, e)
	}
}

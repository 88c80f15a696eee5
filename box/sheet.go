package box

import (
	"slices"

	"quinella/api"
)

// sheet is a card with its tickets.
type sheet struct {
	api.BoxCard
	tickets []api.BoxTicket
}

// sheetOf returns the sheet of a card and tickets, or the error of CheckTickets.
func sheetOf(c api.BoxCard, tickets ...api.BoxTicket) (sheet, api.Errno) {
	if e := CheckCard(c); e != api.OK {
		return sheet{}, e
	}
	if len(tickets) > api.MaxBoxTickets {
		return sheet{}, api.ErrMany
	}
	s := sheet{BoxCard: c, tickets: tickets}
	if e := s.checkBoxes(tickets, 1, api.MaxBoxUnits); e != api.OK {
		return sheet{}, e
	}
	return s, api.OK
}

// within reports whether all numbers are from lo to hi.
func within[N int | int64](lo, hi N, numbers ...N) bool {
	return !slices.ContainsFunc(numbers, func(n N) bool { return n < lo || n > hi })
}

// checkBoxes returns OK if all Sets are boxes, and all Units are from the least to the most.
func (s sheet) checkBoxes(list []api.BoxTicket, least, most int64) api.Errno {
	if slices.ContainsFunc(list, s.isUneven) {
		return api.ErrEqual
	}
	isBeyond := func(t api.BoxTicket) bool { return !s.isBox(t.Sets) || !within(least, most, t.Units) }
	if slices.ContainsFunc(list, isBeyond) {
		return api.ErrRange
	}
	return api.OK
}

// isUneven reports whether a ticket does not have a set for each race.
func (s sheet) isUneven(t api.BoxTicket) bool { return len(t.Sets) != len(s.Runners) }

// isBox reports whether numbers, one for each race, are sets of its runners.
func (s sheet) isBox(numbers []int) bool {
	for race, all := range s.whole() {
		if !within(1, all, numbers[race]) {
			return false
		}
	}
	return true
}

// areWinners reports whether numbers are runners of the first races, each of its own one.
func (s sheet) areWinners(numbers []int) bool {
	for race, number := range numbers {
		if !within(0, s.Runners[race]-1, number) {
			return false
		}
	}
	return true
}

// whole returns the box of all outcomes.
func (s sheet) whole() []int { return s.behind(nil) }

// behind returns the box of all outcomes that begin with these winners.
func (s sheet) behind(won []int) []int {
	sets := make([]int, len(s.Runners))
	for race, runners := range s.Runners {
		sets[race] = 1<<runners - 1
	}
	for race, winner := range won {
		sets[race] = 1 << winner
	}
	return sets
}

// meets tells of each ticket whether it wins with some outcome of a box.
func (s sheet) meets(box []int) func(ticket int) bool {
	return func(ticket int) bool { return inBoth(s.tickets[ticket].Sets, box) > 0 }
}

// which returns the tickets that are meant, increasing.
func (s sheet) which(isMeant func(ticket int) bool) []int {
	var list []int
	for ticket := range s.tickets {
		if isMeant(ticket) {
			list = append(list, ticket)
		}
	}
	return list
}

// total returns the units of all tickets that are meant.
func (s sheet) total(isMeant func(ticket int) bool) int64 {
	var units int64
	for _, ticket := range s.which(isMeant) {
		units += s.tickets[ticket].Units
	}
	return units
}

// units returns the units of those outcomes of a box that some ticket wins with.
func (s sheet) units(box []int) map[place]int64 {
	units := map[place]int64{}
	for outcome := range outcomes(box) {
		units[placeOf(outcome)] = s.total(s.meets(s.behind(outcome)))
	}
	for at, many := range units {
		if many == 0 {
			delete(units, at)
		}
	}
	return units
}

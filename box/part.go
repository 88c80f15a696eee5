package box

import (
	"iter"
	"slices"

	"quinella/api"
)

// names tells which tickets name a runner.
type names [api.MaxBoxTickets]bool

// namesOf returns which tickets name a runner of a race.
func (s sheet) namesOf(race, runner int) names {
	var named names
	for ticket, t := range s.tickets {
		named[ticket] = t.Sets[race]>>runner&1 == 1
	}
	return named
}

// alike returns the runners of a race in sets: in each one those whom the same tickets name.
func (s sheet) alike(race int) []int {
	var sets []int
	var known []names
	for runner := range s.Runners[race] {
		named := s.namesOf(race, runner)
		at := slices.Index(known, named)
		if at < 0 {
			at = len(known)
			known, sets = append(known, named), append(sets, 0)
		}
		sets[at] |= 1 << runner
	}
	return sets
}

// boxes yields the boxes of a map. The runners that a box has of a race are alike, so that no ticket wins with some of its outcomes alone.
func (s sheet) boxes() iter.Seq[[]int] {
	var sets [][]int
	for race := range s.Runners {
		sets = append(sets, s.alike(race))
	}
	return lists(sets)
}

// needed tells which tickets are not idle: those that alone win with some outcome.
func (s sheet) needed() names {
	var needed names
	for box := range s.boxes() {
		if winning := s.which(s.meets(box)); len(winning) == 1 {
			needed[winning[0]] = true
		}
	}
	return needed
}

// areApart reports whether no outcome is in two parts. It stops at the first one that is, so that it never looks at many more than there are.
func areApart(parts []api.BoxTicket) bool {
	seen := map[place]bool{}
	for _, part := range parts {
		for outcome := range outcomes(part.Sets) {
			at := placeOf(outcome)
			if seen[at] {
				return false
			}
			seen[at] = true
		}
	}
	return true
}

// isSplit reports whether a ticket wins with some outcomes of a part, but not with all.
func (s sheet) isSplit(part api.BoxTicket) bool {
	splits := func(t api.BoxTicket) bool { return within(1, size(part.Sets)-1, inBoth(t.Sets, part.Sets)) }
	return slices.ContainsFunc(s.tickets, splits)
}

// isMiscounted reports whether the Units of a part that no ticket splits are not those of its outcomes.
func (s sheet) isMiscounted(part api.BoxTicket) bool {
	return s.total(s.meets(part.Sets)) != part.Units
}

// areAll reports whether parts that are apart have all outcomes.
func (s sheet) areAll(parts []api.BoxTicket) bool {
	var many int64
	for _, part := range parts {
		many += size(part.Sets)
	}
	return many == size(s.whole())
}

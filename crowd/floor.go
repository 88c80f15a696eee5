package crowd

import (
	"iter"
	"slices"

	"quinella/api"
)

// floor is a hall with its machines.
type floor struct {
	api.CrowdHall
	machines int
}

// floorOf returns the floor of a hall, or the error that it has before all others.
func floorOf(h api.CrowdHall, machines int) (floor, api.Errno) {
	if e := CheckHall(h); e != api.OK {
		return floor{}, e
	}
	if !within(0, api.MaxCrowdMachines, machines) {
		return floor{}, api.ErrMany
	}
	return floor{CrowdHall: h, machines: machines}, api.OK
}

// within reports whether all numbers are from lo to hi.
func within[N int | int64](lo, hi N, numbers ...N) bool {
	return !slices.ContainsFunc(numbers, func(n N) bool { return n < lo || n > hi })
}

// at returns the range of one minute.
func at(minute int64) api.Range { return api.Range{Lo: minute, Hi: minute} }

// isSpan reports whether the ends of a range are minutes, and the range is valid.
func (f floor) isSpan(r api.Range) bool { return within(1, f.Minutes, r.Lo, r.Hi) && r.Lo <= r.Hi }

// isNoPerson reports whether a person is not valid.
func (f floor) isNoPerson(p api.CrowdPerson) bool {
	return !f.isSpan(p.Come) || !within(1, f.Minutes, p.Until)
}

// canCome reports whether a person can come in time.
func (f floor) canCome(person int) bool { return f.People[person].Come.Lo <= f.People[person].Until }

// last returns the last minute of a person who can come in time.
func (f floor) last(person int) int64 { return min(f.People[person].Come.Hi, f.People[person].Until) }

// suits reports whether a plan can have a minute for a person.
func (f floor) suits(person int, minute int64) bool {
	if !f.canCome(person) {
		return minute == 0
	}
	return within(f.last(person), f.People[person].Until, minute)
}

// minutes yields all minutes, each with the people who are there, increasing.
func (f floor) minutes(isThere func(person int, minute int64) bool) iter.Seq2[int64, []int] {
	return func(yield func(int64, []int) bool) {
		for minute := int64(1); minute <= f.Minutes; minute++ {
			var there []int
			for person := range f.People {
				if isThere(person, minute) {
					there = append(there, person)
				}
			}
			if !yield(minute, there) {
				return
			}
		}
	}
}

// with returns the floor with another Come of a person.
func (f floor) with(person int, come api.Range) floor {
	people := make([]api.CrowdPerson, len(f.People))
	copy(people, f.People)
	people[person].Come = come
	f.People = people
	return f
}

// joined returns the floor with more people who come in a minute, and have time until this minute alone.
func (f floor) joined(more int, minute int64) floor {
	all := len(f.People)
	hasty := []api.CrowdPerson{{Come: at(minute), Until: minute}}
	f.People = append(f.People[:all:all], slices.Repeat(hasty, more)...)
	return f
}

package ticket

import (
	"iter"
	"slices"

	"quinella/api"
)

// tickets are torn tickets: of each, the sets of the letters that it can have.
type tickets [][]int

// book is all codes of a day, and which of them were sold.
type book struct {
	machine
	sold []api.Range
}

// within reports whether all numbers are from lo to hi.
func within(lo, hi int64, numbers ...int64) bool {
	return !slices.ContainsFunc(numbers, func(n int64) bool { return n < lo || n > hi })
}

// with returns which of the tickets have a letter at a place, a bit for each of them.
func (t tickets) with(place, letter int) int {
	with := 0
	for i, torn := range t {
		with |= torn[place] >> letter & 1 << i
	}
	return with
}

// checkTorn returns the error of a torn ticket of a valid day.
func checkTorn(d api.TicketDay, torn []int) api.Errno {
	if len(torn) != d.Long {
		return api.ErrEqual
	}
	for _, set := range torn {
		if !within(1, 1<<d.Letters-1, int64(set)) {
			return api.ErrRange
		}
	}
	return api.OK
}

// openBook returns the book of a day, if all of these arguments are valid.
func openBook(d api.TicketDay, claims tickets, sold []api.Range) (book, api.Errno) {
	if e := CheckDay(d); e != api.OK {
		return book{}, e
	}
	if len(claims) > api.MaxTicketClaims {
		return book{}, api.ErrMany
	}
	for _, torn := range claims {
		if e := checkTorn(d, torn); e != api.OK {
			return book{}, e
		}
	}
	if len(sold) > api.MaxTicketSold {
		return book{}, api.ErrMany
	}
	b := book{machine: machineOf(d, func(place, letter int) int { return 1 }), sold: sold}
	var free int64
	for _, r := range sold {
		if !within(free, b.many()-1, r.Lo, r.Hi) || r.Lo > r.Hi {
			return book{}, api.ErrRange
		}
		free = r.Hi + 1
	}
	return b, api.OK
}

// below returns how many codes of a machine have a number below this one, which can be the one behind the last number.
func (b book) below(m machine, number int64) int64 {
	if number == b.many() {
		return m.many()
	}
	return m.before(b.word(number))
}

// spans yields the indexes of the codes of a machine that were sold: the first one of each range, and the one behind its last one.
func (b book) spans(m machine) iter.Seq2[int64, int64] {
	return func(yield func(int64, int64) bool) {
		for _, r := range b.sold {
			if !yield(b.below(m, r.Lo), b.below(m, r.Hi+1)) {
				return
			}
		}
	}
}

// sales returns how many codes of a machine were sold.
func (b book) sales(m machine) int64 {
	var codes int64
	for first, end := range b.spans(m) {
		codes += end - first
	}
	return codes
}

// soldOf yields the numbers of the codes of a machine that were sold.
func (b book) soldOf(m machine) iter.Seq[int64] {
	return func(yield func(int64) bool) {
		for first, end := range b.spans(m) {
			for index := first; index < end; index++ {
				if !yield(b.before(m.word(index))) {
					return
				}
			}
		}
	}
}

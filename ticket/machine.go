package ticket

import "quinella/api"

// state is what decides how a code can go on: where it is, its last letter, its sum, and which tickets it can still be.
type state struct {
	place, last, sum int
	open             int // a bit for each ticket
}

// onward is in how many ways a code can go on, for each next letter.
type onward [api.MaxTicketLetters]int64

// machine knows the codes of a day that are meant: those that are one of some tickets at least.
type machine struct {
	api.TicketDay
	with  func(place, letter int) int // the tickets that have a letter at a place, a bit for each of them
	known map[state]onward            // of all states that lead to codes that are meant
}

// machineOf returns the machine of a valid day.
func machineOf(d api.TicketDay, with func(place, letter int) int) machine {
	m := machine{TicketDay: d, with: with, known: map[state]onward{}}
	m.explore(start())
	for at, on := range m.known {
		if on == (onward{}) {
			delete(m.known, at)
		}
	}
	return m
}

// start is the state before the first letter, when it can be any ticket.
func start() state { return state{last: -1, open: -1} }

// before returns how many codes go on with a letter before this one.
func (o onward) before(letter int) int64 {
	var codes int64
	for _, many := range o[:letter] {
		codes += many
	}
	return codes
}

func (o onward) total() int64 { return o.before(len(o)) }

// next returns the state behind one more letter.
func (m machine) next(at state, letter int) state {
	return state{
		place: at.place + 1,
		last:  letter,
		sum:   (at.sum + letter*m.Keys[at.place]) % m.Letters,
		open:  at.open & m.with(at.place, letter),
	}
}

// explore returns how many codes go on from a state, and keeps what it learns, also of states that lead nowhere, lest it looks at them again.
func (m machine) explore(at state) int64 {
	if on, known := m.known[at]; known {
		return on.total()
	}
	var on onward
	if at.place < m.Long {
		for letter := range m.Letters {
			if to := m.next(at, letter); letter != at.last && to.open != 0 {
				on[letter] = m.explore(to)
			}
		}
	} else if at.sum == m.Rest {
		on[0] = 1 // a code that is whole goes on in one way: it ends
	}
	m.known[at] = on
	return on.total()
}

// many returns how many codes are meant.
func (m machine) many() int64 { return m.known[start()].total() }

// word returns the code that is meant before which index others are.
func (m machine) word(index int64) string {
	word := make([]byte, 0, m.Long)
	at := start()
places:
	for range m.Long {
		for letter, many := range m.known[at] {
			if index < many {
				word = append(word, byte('a'+letter))
				at = m.next(at, letter)
				continue places
			}
			index -= many
		}
	}
	return string(word)
}

// before returns how many codes that are meant come before a code of the day.
func (m machine) before(code string) int64 {
	var codes int64
	at := start()
	for _, c := range []byte(code) {
		letter := int(c - 'a')
		codes += m.known[at].before(letter)
		at = m.next(at, letter)
	}
	return codes
}

// letters returns, for each place, the set of all letters that codes that are meant have there.
func (m machine) letters() []int {
	sets := make([]int, m.Long)
	for at := range m.known {
		if at != start() {
			sets[at.place-1] |= 1 << at.last
		}
	}
	return sets
}

// isWord reports whether a string is a word of the day.
func (m machine) isWord(word string) bool {
	for _, c := range []byte(word) {
		if !within('a', 'a'+int64(m.Letters)-1, int64(c)) {
			return false
		}
	}
	return len(word) == m.Long
}

// checkCode returns OK if a string is a code of the day.
func (m machine) checkCode(word string) api.Errno {
	if !m.isWord(word) {
		return api.ErrForm
	}
	at := start()
	for _, c := range []byte(word) {
		letter := int(c - 'a')
		if letter == at.last {
			return api.ErrRule
		}
		at = m.next(at, letter)
	}
	if at.sum != m.Rest {
		return api.ErrSum
	}
	return api.OK
}

package heat

import (
	"math/bits"
	"slices"

	"quinella/api"
)

// set is words, a bit for each of them.
type set uint

const noWord set = 0

// with returns a set with one more word.
func (s set) with(word int) set { return s | 1<<word }

// list returns the words of a set, increasing.
func (s set) list() []int {
	var words []int
	for ; s != noWord; s &= s - 1 {
		words = append(words, bits.TrailingZeros(uint(s)))
	}
	return words
}

// setOf returns the set of a strictly increasing list of words, or ErrRange if it is none.
func (p panel) setOf(list []int) (set, api.Errno) {
	words, first := noWord, 0
	for _, word := range list {
		if !within(first, len(p.Words)-1, word) {
			return noWord, api.ErrRange
		}
		words = words.with(word)
		first = word + 1
	}
	return words, api.OK
}

// denied returns the words with which a finish does not agree.
func (p panel) denied(f places) set {
	words := noWord
	for word, w := range p.Words {
		if !f.agrees(w) {
			words = words.with(word)
		}
	}
	return words
}

// denials returns, for each finish that does not agree, the words that deny it.
func (p panel) denials() []set {
	var sets []set
	for f := range p.finishes() {
		if words := p.denied(f); words != noWord {
			sets = append(sets, words)
		}
	}
	return sets
}

// isBase reports whether words deny all that is denied: just then all others follow from them.
func isBase(words set, denials []set) bool {
	isLeft := func(denied set) bool { return denied&words == noWord }
	return !slices.ContainsFunc(denials, isLeft)
}

// leastBase looks at smaller sets first, and at those of a size in lexicographic order: behind each set those wait that have one
// word more, behind its own ones. It comes to an end, as all words are a base.
func (p panel) leastBase() set {
	denials := p.denials()
	waiting := []set{noWord}
	for !isBase(waiting[0], denials) {
		words := waiting[0]
		waiting = waiting[1:]
		for word := bits.Len(uint(words)); word < len(p.Words); word++ {
			waiting = append(waiting, words.with(word))
		}
	}
	return waiting[0]
}

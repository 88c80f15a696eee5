package ticket

import (
	"bytes"
	"cmp"
	"maps"
	"slices"
)

// draft is how a code begins, and in how many letters this differs from a word.
type draft struct {
	wrong int
	word  []byte
}

// compare tells which draft is better: the nearer one, and of two as near the one that comes first.
func compare(a, b draft) int {
	return cmp.Or(cmp.Compare(a.wrong, b.wrong), bytes.Compare(a.word, b.word))
}

// best returns the first one of several, of which there has to be one at least, than which none comes before.
func best[T any](compare func(a, b T) int, several ...T) T {
	found := several[0]
	for _, x := range several[1:] {
		if compare(x, found) < 0 {
			found = x
		}
	}
	return found
}

// grow returns a draft with one more letter. Several grow from one, so that none may use the memory behind it.
func (d draft) grow(letter, want byte) draft {
	n := len(d.word)
	grown := draft{wrong: d.wrong, word: append(d.word[:n:n], letter)}
	if letter != want {
		grown.wrong++
	}
	return grown
}

// nearest returns the code that is nearest to a word, of those that are meant, of which there has to be one.
func (m machine) nearest(word string) draft {
	drafts := map[state]draft{start(): {}}
	for _, want := range []byte(word) {
		drafts = m.longer(drafts, want)
	}
	return best(compare, slices.Collect(maps.Values(drafts))...)
}

// longer returns the best draft of each state behind one more letter: how it goes on from a state does not depend on how it came there.
func (m machine) longer(drafts map[state]draft, want byte) map[state]draft {
	longer := map[state]draft{}
	for at, d := range drafts {
		for letter, many := range m.known[at] {
			if many == 0 {
				continue
			}
			to, grown := m.next(at, letter), d.grow(byte('a'+letter), want)
			old, reached := longer[to]
			if !reached {
				longer[to] = grown
			} else if compare(grown, old) < 0 {
				copy(old.word, grown.word)
				longer[to] = draft{wrong: grown.wrong, word: old.word}
			}
		}
	}
	return longer
}

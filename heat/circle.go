package heat

import (
	"cmp"
	"maps"
	"slices"

	"quinella/api"
)

// pair is two runners, one after another.
type pair struct {
	from, to int
}

// link says of two runners that the first one was not behind the second one, or even before it.
type link struct {
	pair
	before bool
}

// walk is words whose links lead to a runner.
type walk struct {
	at    int
	words []int
}

// on returns the walk that goes on with a word. Several walks go on from one, so that none may use the memory behind it.
func (k walk) on(to, word int) walk {
	long := len(k.words)
	return walk{at: to, words: append(k.words[:long:long], word)}
}

// linksOf returns the links of a word.
func linksOf(w api.HeatWord) []link {
	there, back := pair{from: w.One, to: w.Two}, pair{from: w.Two, to: w.One}
	if w.Kind == api.HeatWith {
		return []link{{pair: there}, {pair: back}}
	}
	return []link{{pair: there, before: w.Kind == api.HeatBefore}}
}

// links returns the links of all words, each with one of those that have it, without those that say no more than another one.
func (p panel) links() map[link]int {
	words := map[link]int{}
	for word, w := range p.Words {
		for _, l := range linksOf(w) {
			words[l] = word
		}
	}
	for l := range words {
		if l.before {
			delete(words, link{pair: l.pair})
		}
	}
	return words
}

// isCircle reports whether words of the race are a circle.
func (p panel) isCircle(circle []int) bool {
	isBefore := func(word int) bool { return p.Words[word].Kind == api.HeatBefore }
	if !slices.ContainsFunc(circle, isBefore) {
		return false
	}
	for runner := range p.Runners {
		if to, ok := p.follow(runner, circle); ok && to == runner {
			return true
		}
	}
	return false
}

// follow returns to whom links of words lead from a runner, if they do. No word has two links that begin with the same one.
func (p panel) follow(at int, words []int) (to int, ok bool) {
	for _, word := range words {
		links := linksOf(p.Words[word])
		next := slices.IndexFunc(links, func(l link) bool { return l.from == at })
		if next < 0 {
			return 0, false
		}
		at = links[next].to
	}
	return at, true
}

// circle returns a circle with as few words as can be; there has to be one.
func (p panel) circle() []int {
	words := p.links()
	// There is one link of a pair at most, so that this order does not depend on that of the map.
	links := slices.SortedFunc(maps.Keys(words), func(a, b link) int {
		return cmp.Or(cmp.Compare(a.from, b.from), cmp.Compare(a.to, b.to))
	})
	var circle []int
	limit := api.MaxHeatWords
	seen := make([]bool, p.Runners)
search:
	for _, first := range links {
		if !first.before {
			continue
		}
		clear(seen)
		walks := []walk{{at: first.to, words: []int{words[first]}}}
		for at := 0; at < len(walks); at++ {
			k := walks[at]
			if len(k.words) > limit {
				continue search
			}
			if k.at == first.from {
				circle = make([]int, len(k.words))
				copy(circle, k.words)
				limit = len(circle) - 1
				continue search
			}
			for _, l := range links {
				if l.from == k.at && !seen[l.to] {
					seen[l.to] = true
					walks = append(walks, k.on(l.to, words[l]))
				}
			}
		}
	}
	return circle
}

package pool

import (
	"iter"
	"slices"

	"quinella/api"
)

// isFinish reports whether groups are a finish of the book.
func (b book) isFinish(groups [][]int) bool {
	coming := b.racing()
	for _, group := range groups {
		if len(group) == 0 || !strictlyIncreasing(group) {
			return false
		}
		for _, runner := range group {
			at := slices.Index(coming, runner)
			if at < 0 {
				return false
			}
			coming = slices.Delete(coming, at, at+1)
		}
	}
	return len(coming) == 0
}

// placed returns the runners of the first group, and of the second one if the first one is of one runner alone; increasing.
func placed(finish [][]int) []int {
	runners := finish[0]
	if len(runners) == 1 {
		runners = append(runners[:1:1], finish[1]...)
		slices.Sort(runners)
	}
	return runners
}

// winners yields the winners of a finish, in their order. Groups behind the second one can be left out of it.
func (b book) winners(finish [][]int) iter.Seq[spot] {
	first, runners := finish[0], placed(finish)
	switch b.Kind {
	case api.PoolWin:
		return singles(first)
	case api.PoolPlace:
		return singles(runners)
	case api.PoolPair:
		return pairs(runners, func(s spot) bool {
			return s.first != s.second && slices.Contains(first, s.first)
		})
	}
	return pairs(runners, func(s spot) bool {
		return s.first < s.second && (slices.Contains(first, s.first) || slices.Contains(first, s.second))
	})
}

// singles yields each runner alone.
func singles(runners []int) iter.Seq[spot] {
	return func(yield func(spot) bool) {
		for _, runner := range runners {
			if !yield(spot{runner, alone}) {
				return
			}
		}
	}
}

// pairs yields the spots of two of the runners that win.
func pairs(runners []int, wins func(spot) bool) iter.Seq[spot] {
	return func(yield func(spot) bool) {
		for _, one := range runners {
			for _, two := range runners {
				if s := (spot{one, two}); wins(s) && !yield(s) {
					return
				}
			}
		}
	}
}

// groups returns all groups that can come in together.
func (b book) groups() [][]int {
	list := [][]int{nil}
	for _, runner := range b.racing() {
		for _, g := range list {
			// The group is cut at its capacity, so that groups which grow from the same one do not write over one another.
			list = append(list, append(g[:len(g):len(g)], runner))
		}
	}
	return list[1:]
}

// heads yields how finishes can begin, as far as the winners depend on it: with a group of several runners, or with one runner and a group behind it.
func (b book) heads() iter.Seq[[][]int] {
	return func(yield func([][]int) bool) {
		groups := b.groups()
		ahead := make([]bool, b.Runners)
		for _, first := range groups {
			if len(first) > 1 {
				if !yield([][]int{first}) {
					return
				}
				continue
			}
			clear(ahead)
			ahead[first[0]] = true
		behind:
			for _, second := range groups {
				for _, runner := range second {
					if ahead[runner] {
						continue behind
					}
				}
				if !yield([][]int{first, second}) {
					return
				}
			}
		}
	}
}

package tape

// pulls returns how many letters of the windows that are meant a night of a length has at least; there has to be such a night.
func (r reel) pulls(long int, isMeant func(window byte) bool) int {
	now, next := map[place]int{{}: 0}, map[place]int{}
	for range long {
		clear(next)
		for at, pulled := range now {
			r.pull(at, pulled, isMeant, next)
		}
		now, next = next, now
	}
	return now[r.last]
}

// pull notes the places behind a place that is reached with so many letters of the windows that are meant, each with the fewest of them.
func (r reel) pull(at place, pulled int, isMeant func(window byte) bool, next map[place]int) {
	for window, behind := range r.onward(at) {
		many := pulled
		if isMeant(window) {
			many++
		}
		fewest, isReached := next[behind]
		if !isReached || many < fewest {
			next[behind] = many
		}
	}
}

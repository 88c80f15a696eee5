package box

import (
	"math/bits"

	"quinella/api"
)

// counts are numbers of outcomes, for each number of races in which a ticket can be wrong.
type counts [api.MaxBoxRaces + 1]int64

// byWrong returns for how many outcomes a box is wrong in each number of races.
func (s sheet) byWrong(box []int) counts {
	// Before the first race there is one way in which winners can begin: with none, and none of them wrong.
	before, behind := counts{1}, counts{}
	for race, set := range box {
		clear(behind[:])
		named := int64(bits.OnesCount(uint(set)))
		for wrong, many := range before[:race+1] {
			behind[wrong] += many * named
			behind[wrong+1] += many * (int64(s.Runners[race]) - named)
		}
		before = behind
	}
	return before
}

// upTo returns for how many outcomes a box is wrong in at most so many races.
func (c counts) upTo(wrong int) int64 {
	var outcomes int64
	for _, many := range c[:wrong+1] {
		outcomes += many
	}
	return outcomes
}

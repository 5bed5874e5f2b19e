package tread

import (
	"slices"

	"remould/api"
)

// Growth returns the degree by which the number of words that avoid the set grows with their length: -1 if there are no long words, -2 if it is no power.
func Growth(q int, set []string) (int, api.Errno) {
	if !isSet(q, set) {
		return 0, api.ErrArg
	}
	r := newReader(q, set)
	distances := make([][]int, len(r.next))
	for goal := range r.next {
		distances[goal] = r.distances(goal)
	}
	for end := range r.next {
		if r.waysBack(end, distances[end]) > 1 {
			return -2, api.OK
		}
	}
	return r.mostRounds(distances) - 1, api.OK
}

// waysBack returns for how many letters that may follow an end there is a way back to it.
func (r reader) waysBack(end int, distances []int) int {
	ways := 0
	for _, next := range r.steps(end) {
		if r.isWay(distances[next]) {
			ways++
		}
	}
	return ways
}

// mostRounds returns the greatest number of rounds that one word can make, where no two rounds share an end. A word of length n may choose how often it makes each of them but one, which is what its degree counts.
func (r reader) mostRounds(distances [][]int) int {
	rounds := r.rounds(distances)
	counts := slices.Repeat([]int{1}, len(rounds))
	for range rounds {
		for i, from := range rounds {
			for j, to := range rounds {
				if i != j && r.isWay(distances[to][from]) {
					counts[i] = max(counts[i], counts[j]+1)
				}
			}
		}
	}
	most := 0
	for _, count := range counts {
		most = max(most, count)
	}
	return most
}

// rounds returns the first end of each round.
func (r reader) rounds(distances [][]int) []int {
	var firsts []int
ends:
	for end := range r.next {
		if r.waysBack(end, distances[end]) == 0 {
			continue
		}
		for _, first := range firsts {
			if r.isWay(distances[first][end]) && r.isWay(distances[end][first]) {
				continue ends
			}
		}
		firsts = append(firsts, end)
	}
	return firsts
}

package pebble

import (
	"iter"

	"spoondrift/api"
)

// search goes through the games on a board that come only to positions that may be.
type search struct {
	board
	may func(position int) bool
}

// searchWith returns the search for games that are played with at most so many pebbles.
func searchWith(b board, pebbles int) search {
	return search{b, func(position int) bool { return pebblesOf(position) <= pebbles }}
}

// steps yields the moves that games may go on with, in the order of the nodes.
func (s search) steps(now int) iter.Seq[step] {
	return func(yield func(step) bool) {
		for next := range s.board.steps(now) {
			if s.may(next.to) && !yield(next) {
				return
			}
		}
	}
}

// shortest returns the shortest game to a position that is not 0, or nil if there is none; of several the first one in
// lexicographic order. A shortest game comes to no position twice, so that no step of it is step{}: that one stands
// for the beginning. Steps are open in the order of the games that they end, so that the first one to a position ends
// the first one of the shortest games to it.
func (s search) shortest(end int) []int {
	var last step
	var before [1 << MaxNodes]step
	met := map[int]bool{0: true}
search:
	for open := []step{{}}; len(open) > 0; open = open[1:] {
		for next := range s.steps(open[0].to) {
			if met[next.to] {
				continue
			}
			met[next.to] = true
			before[next.to] = open[0]
			if next.to == end {
				last = next
				break search
			}
			open = append(open, next)
		}
	}
	var game []int
	for at := last; at != (step{}); at = before[at.to] {
		game = append(game, at.node)
	}
	return backwards(game)
}

// Least returns the least number of pebbles. As many as there are nodes always do.
func Least(d api.Dag, goals []int) (int, api.Errno) {
	b, end, e := boardWith(d, goals)
	if e != api.OK {
		return 0, e
	}
	least := 1
	for least < len(b.Needs) && len(searchWith(b, least).shortest(end)) == 0 {
		least++
	}
	return least, api.OK
}

// Shortest returns the shortest game with so many pebbles.
func Shortest(d api.Dag, goals []int, pebbles int) ([]int, api.Errno) {
	b, end, e := boardWith(d, goals)
	if e != api.OK {
		return nil, e
	}
	if !isFrom(pebbles, 1, MaxNodes) {
		return nil, api.ErrRange
	}
	game := searchWith(b, pebbles).shortest(end)
	if len(game) == 0 {
		return nil, api.ErrNone
	}
	return game, api.OK
}

// Trade returns how many moves there are for how many pebbles. More pebbles than there are nodes are of no use.
func Trade(d api.Dag, goals []int) ([][2]int, api.Errno) {
	b, end, e := boardWith(d, goals)
	if e != api.OK {
		return nil, e
	}
	var trade [][2]int
	fewest := 0
	for pebbles := 1; pebbles <= len(b.Needs); pebbles++ {
		moves := len(searchWith(b, pebbles).shortest(end))
		if moves > 0 && (fewest == 0 || moves < fewest) {
			trade = append(trade, [2]int{pebbles, moves})
			fewest = moves
		}
	}
	return trade, api.OK
}

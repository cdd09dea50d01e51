package pebble

import (
	"slices"

	"spoondrift/api"
	"spoondrift/rev"
)

// Needed returns the nodes that are needed.
func Needed(d api.Dag, goals []int) ([]int, api.Errno) {
	b, end, e := boardWith(d, goals)
	if e != api.OK {
		return nil, e
	}
	return nodesOf(b.needed(end)), api.OK
}

// Play returns the positions of a game.
func Play(d api.Dag, moves []int) ([]int, api.Errno) {
	b, e := boardOf(d)
	if e != api.OK {
		return nil, e
	}
	if len(moves) > MaxMoves {
		return nil, api.ErrMany
	}
	return follow(moves, b.move)
}

// follow returns the position 0, and the one behind each move.
func follow(moves []int, move func(now, node int) (int, api.Errno)) ([]int, api.Errno) {
	now := 0
	l := []int{now}
	for _, node := range moves {
		next, e := move(now, node)
		if e != api.OK {
			return nil, e
		}
		l = append(l, next)
		now = next
	}
	return l, api.OK
}

// Most returns the greatest number of pebbles of a game.
func Most(d api.Dag, moves []int) (int, api.Errno) {
	l, e := Play(d, moves)
	if e != api.OK {
		return 0, e
	}
	most := 0
	for _, x := range l {
		most = max(most, pebblesOf(x))
	}
	return most, api.OK
}

// Reaches reports whether a game reaches goals: its circuit makes the last position of the first one.
func Reaches(d api.Dag, goals, moves []int) (bool, api.Errno) {
	_, end, e := boardWith(d, goals)
	if e != api.OK {
		return false, e
	}
	c, e := Circuit(d, moves)
	if e != api.OK {
		return false, e
	}
	last, e := rev.Apply(c, 0)
	return last == end, e
}

// backwards returns a list turned round.
func backwards[T any](l []T) []T {
	back := slices.Clone(l)
	slices.Reverse(back)
	return back
}

// Plain returns the game that makes all, and takes away what is no goal.
func Plain(d api.Dag, goals []int) ([]int, api.Errno) {
	b, end, e := boardWith(d, goals)
	if e != api.OK {
		return nil, e
	}
	all := b.needed(end)
	return slices.Concat(nodesOf(all), backwards(nodesOf(all&^end))), api.OK
}

// Bennett returns Bennett's game of a line.
func Bennett(n int) ([]int, api.Errno) {
	if !isFrom(n, 1, MaxNodes) {
		return nil, api.ErrMany
	}
	var play func(from, many int) []int
	play = func(from, many int) []int {
		if many == 1 {
			return []int{from}
		}
		half := (many + 1) / 2
		first := play(from, half)
		others := play(from+half, many-half)
		return slices.Concat(first, others, backwards(first))
	}
	return play(0, n), api.OK
}

// Circuit returns the circuit of a game.
func Circuit(d api.Dag, moves []int) (api.Circuit, api.Errno) {
	if _, e := Play(d, moves); e != api.OK {
		return api.Circuit{}, e
	}
	kinds := [...]int{api.X, api.CX, api.CCX}
	c := api.Circuit{Wires: len(d.Needs)}
	for _, node := range moves {
		controls := slices.Clone(d.Needs[node])
		c.Gates = append(c.Gates, api.Gate{Kind: kinds[len(controls)], Wires: append(controls, node)})
	}
	return c, api.OK
}

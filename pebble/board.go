package pebble

import (
	"iter"
	"math/bits"

	"spoondrift/api"
)

// position returns the position in which just these nodes have pebbles.
func position(nodes ...int) int {
	sum := 0
	for _, node := range nodes {
		sum |= 1 << node
	}
	return sum
}

// has reports whether a node has a pebble.
func has(position, node int) bool { return position>>node&1 == 1 }

// nodesOf returns the nodes that have pebbles, rising.
func nodesOf(position int) []int {
	var l []int
	for ; position != 0; position &= position - 1 {
		l = append(l, bits.TrailingZeros(uint(position)))
	}
	return l
}

// pebblesOf returns how many pebbles a position has.
func pebblesOf(position int) int { return bits.OnesCount(uint(position)) }

// board is a right graph that is played on.
type board struct{ api.Dag }

// boardOf returns a board; Check has the only errors.
func boardOf(d api.Dag) (board, api.Errno) {
	if e := Check(d); e != api.OK {
		return board{}, e
	}
	return board{d}, api.OK
}

// boardWith returns a board, and the position in which just the goals have pebbles.
func boardWith(d api.Dag, goals []int) (b board, end int, e api.Errno) {
	if b, e = boardOf(d); e != api.OK {
		return board{}, 0, e
	}
	if len(goals) == 0 {
		return board{}, 0, api.ErrMany
	}
	if !allBelow(goals, len(b.Needs)) {
		return board{}, 0, api.ErrNot
	}
	if !rise(goals) {
		return board{}, 0, api.ErrOrder
	}
	return b, position(goals...), api.OK
}

// move returns the position to which a move leads.
func (b board) move(now, node int) (int, api.Errno) {
	if !isFrom(node, 0, len(b.Needs)-1) {
		return 0, api.ErrNot
	}
	if needs := position(b.Needs[node]...); now&needs != needs {
		return 0, api.ErrOrder
	}
	return now ^ position(node), api.OK
}

// step is a move, and the position to which it leads.
type step struct{ node, to int }

// steps yields all moves that may be made, in the order of the nodes, with the positions to which they lead.
func (b board) steps(now int) iter.Seq[step] {
	return func(yield func(step) bool) {
		for node := range len(b.Needs) {
			to, e := b.move(now, node)
			if e == api.OK && !yield(step{node, to}) {
				return
			}
		}
	}
}

// needed returns the position in which just the nodes have pebbles that some nodes need, again and again, and these
// nodes. What a node needs has less numbers, so that each node is asked behind all those that could need it.
func (b board) needed(all int) int {
	for node := len(b.Needs) - 1; node >= 0; node-- {
		if has(all, node) {
			all |= position(b.Needs[node]...)
		}
	}
	return all
}

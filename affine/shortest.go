package affine

import (
	"iter"
	"slices"

	"spoondrift/api"
	"spoondrift/circ"
)

// move is a small gate, and its map.
type move struct {
	gate api.Gate
	does small
}

// moves yields the small gates, in order.
func moves(wires int) iter.Seq[move] {
	return func(yield func(move) bool) {
		for _, x := range effects() {
			arity := circ.Arity(x.kind)
			for i := range wires {
				for k := range wires {
					if !x.isSmall(i, k) {
						continue
					}
					w := identity(wires)
					x.do(&w, i, k)
					gate := gateOf(x.kind, []int{i, k}[:arity]...)
					if !yield(move{gate, smallOf(w)}) {
						return
					}
				}
			}
		}
	}
}

// met is how a map was met first: by a gate behind another map. So many gates lead there.
type met struct {
	before small
	gate   api.Gate
	many   int
}

// meetAll returns how each map is met first, if gates are put behind the maps that were met before, these and the gates
// in order. So maps with the same number of gates are met in the order of their first shortest circuits: each such
// circuit has one of the map before it at its beginning, and no two small gates have the same map.
func meetAll(wires int) map[small]met {
	start, gates := smallOf(identity(wires)), slices.Collect(moves(wires))
	known := map[small]met{start: {}}
	for open := []small{start}; len(open) > 0; open = open[1:] {
		m := open[0]
		many := known[m].many + 1
		for _, g := range gates {
			next := m.then(g.does.take)
			if _, is := known[next]; !is {
				known[next] = met{m, g.gate, many}
				open = append(open, next)
			}
		}
	}
	return known
}

// Shortest returns the shortest circuit.
func Shortest(m api.Affine) (api.Circuit, api.Errno) {
	now, e := smallFrom(m)
	if e != api.OK {
		return api.Circuit{}, e
	}
	known, start := meetAll(now.wires), smallOf(identity(now.wires))
	c := api.Circuit{Wires: now.wires}
	for now != start {
		last := known[now]
		c.Gates = append(c.Gates, gateOf(last.gate.Kind, slices.Clone(last.gate.Wires)...))
		now = last.before
	}
	slices.Reverse(c.Gates)
	return c, api.OK
}

// Proof returns how many gates each map needs.
func Proof(wires int) ([]int, api.Errno) {
	if e := checkWires(wires, MaxSmall); e != api.OK {
		return nil, e
	}
	var proof []int
	known := meetAll(wires)
	for _, m := range numbered(wires) {
		proof = append(proof, known[m].many)
	}
	return proof, api.OK
}

// Holds reports whether a list shows how many gates are needed.
func Holds(wires int, proof []int) (bool, api.Errno) {
	if e := checkWires(wires, MaxSmall); e != api.OK {
		return false, e
	}
	numbers := map[small]int{}
	for number, m := range numbered(wires) {
		numbers[m] = number
	}
	// No difference of two numbers overflows, as they are not below 0.
	if len(proof) != len(numbers) || !every(proof, func(x int) bool { return x >= 0 }) {
		return false, api.OK
	}
	if proof[numbers[smallOf(identity(wires))]] != 0 {
		return false, api.OK
	}
	gates := slices.Collect(moves(wires))
	for number, m := range numbered(wires) {
		for _, g := range gates {
			if d := proof[number] - proof[numbers[m.then(g.does.take)]]; d < -1 || d > 1 {
				return false, api.OK
			}
		}
	}
	return true, api.OK
}

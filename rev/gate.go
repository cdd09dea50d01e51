package rev

import (
	"slices"

	"spoondrift/api"
	"spoondrift/circ"
)

// wires are those of a gate in their places; behind the last one there is 0.
type wires [3]int

// gate is a right gate of a classical circuit, and can be compared with another one.
type gate struct {
	kind  int
	wires wires
}

// gateOf takes a right gate in.
func gateOf(g api.Gate) gate {
	own := gate{kind: g.Kind}
	copy(own.wires[:], g.Wires)
	return own
}

// turning returns the gate that turns a wire if all controls are 1; there are at most two.
func turning(wire int, controls ...int) gate {
	g := gate{kind: [...]int{api.X, api.CX, api.CCX}[len(controls)]}
	last := copy(g.wires[:], controls)
	g.wires[last] = wire
	return g
}

// given gives a gate out, with memory of its own.
func (g gate) given() api.Gate {
	return api.Gate{Kind: g.kind, Wires: slices.Clone(g.wires[:circ.Arity(g.kind)])}
}

// effect is what the gates of a kind do to a state.
type effect struct {
	kind int
	do   func(state int, w wires) int
}

// effects are those of all kinds that classical circuits have.
func effects() []effect {
	return []effect{
		{api.X, func(state int, w wires) int { return turn(state, w[0]) }},
		{api.CX, func(state int, w wires) int { return turn(state, w[1], w[0]) }},
		{api.Swap, func(state int, w wires) int { return exchange(state, w[0], w[1]) }},
		{api.CCX, func(state int, w wires) int { return turn(state, w[2], w[0], w[1]) }},
	}
}

// effectOf returns what the gates of a kind do; there is no function if classical circuits do not have them.
func effectOf(kind int) effect {
	x, _ := find(effects(), func(x effect) bool { return x.kind == kind })
	return x
}

// has reports whether a wire is 1 in a state.
func has(state, wire int) bool { return state>>wire&1 == 1 }

// turn turns a wire of a state if all controls are 1.
func turn(state, wire int, controls ...int) int {
	if _, is := find(controls, func(k int) bool { return !has(state, k) }); is {
		return state
	}
	return state ^ 1<<wire
}

// exchange exchanges two wires of a state.
func exchange(state, i, k int) int {
	if has(state, i) == has(state, k) {
		return state
	}
	return turn(turn(state, i), k)
}

// move is a gate with what its kind does.
type move struct {
	gate
	effect effect
}

// moveOf returns a gate with what it does.
func moveOf(g gate) move { return move{g, effectOf(g.kind)} }

// take returns what the gate makes of a state.
func (m move) take(state int) int { return m.effect.do(state, m.wires) }

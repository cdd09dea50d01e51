package matrix

import (
	"slices"

	"spoondrift/api"
	"spoondrift/ring"
)

// Identity returns the operator that leaves so many wires as they are.
func Identity(wires int) ([][]api.Num, api.Errno) {
	if wires < 0 || wires > api.MaxState {
		return nil, api.ErrRange
	}
	return identity(1 << wires), api.OK
}

// identity returns the matrix of n rows that changes nothing.
func identity(n int) [][]api.Num {
	one := ring.Omega(0)
	element := func(p place) (api.Num, api.Errno) {
		if p == p.across() {
			return one, api.OK
		}
		return api.Num{}, api.OK
	}
	rows, _ := recipe{place{n, n}, element}.rows()
	return rows
}

// Of returns the operator of a kind of gate.
func Of(kind int) ([][]api.Num, api.Errno) {
	operator, ok := operators()[kind]
	if !ok {
		return nil, api.ErrRange
	}
	return operator, api.OK
}

// operators returns the operators of all kinds.
func operators() map[int][][]api.Num {
	up, down := ring.Omega(2), ring.Omega(6) // i and -i
	root := api.Num{A: 1, K: 1}
	minus := api.Num{A: -1, K: 1}
	return map[int][][]api.Num{
		api.X:    exchanged(1, 0, 1),
		api.Y:    {{api.Num{}, down}, {up, api.Num{}}},
		api.Z:    turned(1, 4),
		api.H:    {{root, root}, {root, minus}},
		api.S:    turned(1, 2),
		api.Sd:   turned(1, 6),
		api.T:    turned(1, 1),
		api.Td:   turned(1, 7),
		api.CX:   exchanged(2, 1, 3),
		api.CZ:   turned(2, 4),
		api.Swap: exchanged(2, 1, 2),
		api.CCX:  exchanged(3, 3, 7),
	}
}

// exchanged returns the operator that exchanges two basis states.
func exchanged(wires, a, b int) [][]api.Num {
	rows := identity(1 << wires)
	rows[a], rows[b] = rows[b], rows[a]
	return rows
}

// turned returns the operator that multiplies the last basis state, in which all wires are 1, with w^power.
func turned(wires, power int) [][]api.Num {
	rows := identity(1 << wires)
	last := len(rows) - 1
	rows[last][last] = ring.Omega(power)
	return rows
}

// On returns the operator m on some wires of n.
func On(m [][]api.Num, wires []int, n int) ([][]api.Num, api.Errno) {
	a, e := workOf(m)
	if e != api.OK {
		return nil, e
	}
	if e := checkWires(wires, n); e != api.OK {
		return nil, e
	}
	if side := 1 << len(wires); a.size != (place{side, side}) {
		return nil, api.ErrClash
	}
	wires = slices.Clone(wires)
	element := func(p place) (api.Num, api.Errno) {
		own, rest := apart(p, wires)
		if rest != rest.across() { // one of the other wires would change
			return api.Num{}, api.OK
		}
		return a.at(own), api.OK
	}
	return recipe{place{1 << n, 1 << n}, element}.rows()
}

// checkWires returns the error of different wires of n.
func checkWires(wires []int, n int) api.Errno {
	if n < 0 || n > api.MaxState {
		return api.ErrRange
	}
	known := func(wire int) api.Errno {
		if wire < 0 || wire >= n {
			return api.ErrNot
		}
		return api.OK
	}
	if e := firstError(wires, known); e != api.OK {
		return e
	}
	var seen [api.MaxState]bool
	return firstError(wires, func(wire int) api.Errno {
		if seen[wire] {
			return api.ErrTwice
		}
		seen[wire] = true
		return api.OK
	})
}

// apart takes wires out of the basis states of a place: their values, the first wire lowest, and what is left with 0
// on these wires.
func apart(p place, wires []int) (own, rest place) {
	var take func(state int, wires []int) (own, rest int)
	take = func(state int, wires []int) (own, rest int) {
		if len(wires) == 0 {
			return 0, state
		}
		wire := wires[0]
		own, rest = take(state&^(1<<wire), wires[1:])
		return own<<1 | state>>wire&1, rest
	}
	for i, state := range p {
		own[i], rest[i] = take(state, wires)
	}
	return own, rest
}

package affine

import (
	"slices"

	"spoondrift/api"
	"spoondrift/circ"
)

// effect is what the gates of a kind do. Both wires are the same one if the kind has only one wire.
type effect struct {
	kind    int
	isSmall func(i, k int) bool     // whether the gate of these wires is one of the small gates
	do      func(w *work, i, k int) // what it does to the map before it
}

// effects are what all gates of affine circuits do, in the order of the small gates.
func effects() []effect {
	return []effect{
		{api.X, func(i, k int) bool { return i == k }, func(w *work, _, k int) { w.turn(k) }},
		{api.CX, func(i, k int) bool { return i != k }, (*work).add},
		{api.Swap, func(i, k int) bool { return i < k }, (*work).exchange},
	}
}

// effectOf returns what the gates of a kind do; the kind there is 0 if affine circuits do not have them.
func effectOf(kind int) effect {
	for _, x := range effects() {
		if x.kind == kind {
			return x
		}
	}
	return effect{}
}

// isAffine reports whether affine circuits can have a right gate.
func isAffine(g api.Gate) bool { return effectOf(g.Kind).kind != 0 && g.If == 0 }

// behind does a gate of an affine circuit behind the map.
func (w *work) behind(g api.Gate) {
	effectOf(g.Kind).do(w, g.Wires[0], g.Wires[len(g.Wires)-1])
}

// gateOf returns a gate of some kind.
func gateOf(kind int, wires ...int) api.Gate {
	return api.Gate{Kind: kind, Wires: wires}
}

// beginning returns the map of no gates, for an affine circuit.
func beginning(c api.Circuit) (work, api.Errno) {
	if e := circ.Check(c); e != api.OK {
		return work{}, e
	}
	if !every(c.Gates, isAffine) {
		return work{}, api.ErrForm
	}
	return identity(c.Wires), api.OK
}

// Of returns the map of a circuit.
func Of(c api.Circuit) (api.Affine, api.Errno) {
	w, e := beginning(c)
	if e != api.OK {
		return api.Affine{}, e
	}
	for _, g := range c.Gates {
		w.behind(g)
	}
	return w.Affine, api.OK
}

// Parities returns what all wires have behind each gate.
func Parities(c api.Circuit) ([][]int, api.Errno) {
	w, e := beginning(c)
	if e != api.OK {
		return nil, e
	}
	l := [][]int{w.parities()}
	for _, g := range c.Gates {
		w.behind(g)
		l = append(l, w.parities())
	}
	return l, api.OK
}

// Circuit returns the canonical circuit.
func Circuit(m api.Affine) (api.Circuit, api.Errno) {
	w, e := workOf(m)
	if e != api.OK {
		return api.Circuit{}, e
	}
	gates := w.told()
	slices.Reverse(gates)
	for k := range w.Wires {
		if has(w.Shift, k) {
			gates = append(gates, gateOf(api.X, k))
		}
	}
	if len(gates) > api.MaxGates {
		return api.Circuit{}, api.ErrLong
	}
	return api.Circuit{Wires: w.Wires, Gates: gates}, api.OK
}

// told makes the rows the identity, and returns all that is told.
func (w work) told() []api.Gate {
	var told []api.Gate
	add := func(from, to int) {
		w.Rows[to] = sum(w.Rows[to], w.Rows[from])
		told = append(told, gateOf(api.CX, from, to))
	}
	for k := range w.Wires {
	search:
		for j := k; j < w.Wires; j++ {
			switch there := has(w.Rows[j], k); {
			case there && j == k:
				break search
			case there:
				add(j, k)
				break search
			}
		}
		for i := range w.Wires {
			if i != k && has(w.Rows[i], k) {
				add(k, i)
			}
		}
	}
	return told
}

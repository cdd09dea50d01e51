package circ

import (
	"cmp"
	"iter"
	"slices"

	"spoondrift/api"
)

// axes has, for each kind, the axis on each of its wires, and a dot where there is none.
var axes = [...]string{
	api.X:       "x",
	api.Y:       "y",
	api.Z:       "z",
	api.H:       "h",
	api.S:       "z",
	api.Sd:      "z",
	api.T:       "z",
	api.Td:      "z",
	api.CX:      "zx",
	api.CZ:      "zz",
	api.Swap:    "..",
	api.CCX:     "zzx",
	api.Measure: "z",
	api.Reset:   ".",
}

// undoing has, for each kind, the one that undoes it, and 0 if there is none.
var undoing = [...]int{
	api.X:       api.X,
	api.Y:       api.Y,
	api.Z:       api.Z,
	api.H:       api.H,
	api.S:       api.Sd,
	api.Sd:      api.S,
	api.T:       api.Td,
	api.Td:      api.T,
	api.CX:      api.CX,
	api.CZ:      api.CZ,
	api.Swap:    api.Swap,
	api.CCX:     api.CCX,
	api.Measure: 0,
	api.Reset:   0,
}

// none stands where there is no wire, or no number of a gate.
const none = -1

// wires are those of a gate in their places.
type wires [3]int

// gate is a right gate, and can be compared with another one.
type gate struct {
	kind      int
	wires     wires
	bit, when int
}

// gateOf takes a right gate in.
func gateOf(g api.Gate) gate {
	own := wires{none, none, none}
	copy(own[:], g.Wires)
	return gate{g.Kind, own, g.Bit, g.If}
}

// given gives a gate out, with memory of its own.
func (g gate) given() api.Gate {
	return api.Gate{Kind: g.kind, Wires: slices.Clone(g.wires[:Arity(g.kind)]), Bit: g.bit, If: g.when}
}

// compare is below 0 if g comes before h in the order of gates, and above 0 if it comes behind it.
func (g gate) compare(h gate) int {
	return cmp.Or(cmp.Compare(g.kind, h.kind), slices.Compare(g.wires[:], h.wires[:]), cmp.Compare(g.bit, h.bit), cmp.Compare(g.when, h.when))
}

// isPlain reports whether a gate finds nothing, and depends on no bit.
func (g gate) isPlain() bool { return undoing[g.kind] != 0 && g.when == 0 }

// common yields the places that each wire that both gates have has in g and in h.
func (g gate) common(h gate) iter.Seq2[int, int] {
	return func(yield func(int, int) bool) {
		for i, a := range g.wires {
			for j, b := range h.wires {
				if a == b && a != none && !yield(i, j) {
					return
				}
			}
		}
	}
}

// writes reports whether a gate writes a bit.
func (g gate) writes(bit int) bool { return g.kind == api.Measure && g.bit == bit }

// writesFor reports whether g writes a bit that h reads or writes.
func (g gate) writesFor(h gate) bool {
	return g.kind == api.Measure && (h.writes(g.bit) || h.when == g.bit+1)
}

// shareBit reports whether one of the gates writes a bit that the other one reads or writes.
func (g gate) shareBit(h gate) bool { return g.writesFor(h) || h.writesFor(g) }

// meets reports whether two gates meet.
func (g gate) meets(h gate) bool {
	for range g.common(h) {
		return true
	}
	return g.shareBit(h)
}

// commutes reports whether two gates commute. Those that do not meet have no wire on which their axes could differ.
func (g gate) commutes(h gate) bool {
	return !g.shareBit(h) && (g.sameAxes(h) || g.swapsWith(h))
}

// mustStay reports whether two gates do not commute.
func (g gate) mustStay(h gate) bool { return !g.commutes(h) }

// sameAxes reports whether both gates have an axis, and the same one, on each wire that both have.
func (g gate) sameAxes(h gate) bool {
	for i, j := range g.common(h) {
		if axis := axes[g.kind][i]; axis == '.' || axis != axes[h.kind][j] {
			return false
		}
	}
	return true
}

// swapsWith reports whether one gate is a Swap, the other one a Swap or a CZ, and they have the same two wires.
func (g gate) swapsWith(h gate) bool {
	kinds := g.kind == api.Swap && (h.kind == api.Swap || h.kind == api.CZ) || g.kind == api.CZ && h.kind == api.Swap
	return kinds && g.key().wires == h.key().wires
}

// key returns the gate with those wires in order that can change places.
func (g gate) key() gate {
	switch g.kind {
	case api.CZ, api.Swap, api.CCX:
		if g.wires[0] > g.wires[1] {
			g.wires[0], g.wires[1] = g.wires[1], g.wires[0]
		}
	}
	return g
}

// inverse returns the gate that undoes g; if there is none, it is of no kind.
func (g gate) inverse() gate {
	g.kind = undoing[g.kind]
	return g
}

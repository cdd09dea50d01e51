package circ

import (
	"slices"

	"spoondrift/api"
)

// Compose returns the gates of c and then those of d.
func Compose(c, d api.Circuit) (api.Circuit, api.Errno) {
	v, w, e := workOfTwo(c, d)
	if e != api.OK {
		return api.Circuit{}, e
	}
	if v.Wires != w.Wires || v.Bits != w.Bits {
		return api.Circuit{}, api.ErrClash
	}
	if len(v.gates)+len(w.gates) > api.MaxGates {
		return api.Circuit{}, api.ErrMany
	}
	return v.with(v.gates, w.gates), api.OK
}

// Inverse returns the circuit that undoes c.
func Inverse(c api.Circuit) (api.Circuit, api.Errno) {
	w, e := workOf(c)
	if e != api.OK {
		return api.Circuit{}, e
	}
	if !w.isPlain() {
		return api.Circuit{}, api.ErrClash
	}
	for i, g := range w.gates {
		w.gates[i] = g.inverse()
	}
	slices.Reverse(w.gates)
	return w.with(w.gates), api.OK
}

// Relabel returns the circuit in which wire i has become wires[i].
func Relabel(c api.Circuit, wires []int) (api.Circuit, api.Errno) {
	w, e := workOf(c)
	if e != api.OK {
		return api.Circuit{}, e
	}
	if e := checkNames(wires, w.Wires); e != api.OK {
		return api.Circuit{}, e
	}
	for i := range w.gates {
		for k := range Arity(w.gates[i].kind) {
			old := w.gates[i].wires[k]
			w.gates[i].wires[k] = wires[old]
		}
	}
	return w.with(w.gates), api.OK
}

// checkNames returns the error of new numbers of so many wires; here each number is asked for all errors before the next one.
func checkNames(l []int, wires int) api.Errno {
	if len(l) != wires {
		return api.ErrMany
	}
	fresh := noneTwice()
	return firstError(l, func(wire int) api.Errno {
		if !isBelow(wire, wires) {
			return api.ErrNot
		}
		return fresh(wire)
	})
}

// Widen returns the same gates on more wires and bits.
func Widen(c api.Circuit, wires, bits int) (api.Circuit, api.Errno) {
	w, e := workOf(c)
	if e != api.OK {
		return api.Circuit{}, e
	}
	if wires < w.Wires || wires > api.MaxWires || bits < w.Bits || bits > api.MaxBits {
		return api.Circuit{}, api.ErrRange
	}
	w.Wires, w.Bits = wires, bits
	return w.with(w.gates), api.OK
}

// Slice returns the gates from one number to before another one.
func Slice(c api.Circuit, from, to int) (api.Circuit, api.Errno) {
	w, e := workOf(c)
	if e != api.OK {
		return api.Circuit{}, e
	}
	if from < 0 || from > to || to > len(w.gates) {
		return api.Circuit{}, api.ErrRange
	}
	return w.with(w.gates[from:to]), api.OK
}

package circ

import (
	"iter"

	"spoondrift/api"
)

// work is a right circuit at work: gates are its own, and near tells which two of them are neighbours.
type work struct {
	api.Circuit
	gates []gate
	near  func(g, h gate) bool
}

// workOf puts a circuit to work; Check has the only errors.
func workOf(c api.Circuit) (work, api.Errno) {
	if e := Check(c); e != api.OK {
		return work{}, e
	}
	gates := make([]gate, len(c.Gates))
	for i, g := range c.Gates {
		gates[i] = gateOf(g)
	}
	return work{Circuit: c, gates: gates}, api.OK
}

// workOfTwo puts two circuits to work, the first one before the second one.
func workOfTwo(c, d api.Circuit) (v, w work, e api.Errno) {
	if v, e = workOf(c); e != api.OK {
		return work{}, work{}, e
	}
	if w, e = workOf(d); e != api.OK {
		return work{}, work{}, e
	}
	return v, w, api.OK
}

// with returns a circuit of the same wires and bits whose gates are those of the lists, one list behind the other.
func (w work) with(lists ...[]gate) api.Circuit {
	result := api.Circuit{Wires: w.Wires, Bits: w.Bits}
	for _, l := range lists {
		for _, g := range l {
			result.Gates = append(result.Gates, g.given())
		}
	}
	return result
}

// neighbours yields the numbers of the gate's neighbours among the gates with the numbers from one to before another one.
func (w work) neighbours(number, from, to int) iter.Seq[int] {
	return func(yield func(int) bool) {
		for i := from; i < to; i++ {
			if w.near(w.gates[number], w.gates[i]) && !yield(i) {
				return
			}
		}
	}
}

// isPlain reports whether a circuit has plain gates only.
func (w work) isPlain() bool {
	for _, g := range w.gates {
		if !g.isPlain() {
			return false
		}
	}
	return true
}

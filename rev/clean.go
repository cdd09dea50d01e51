package rev

import (
	"spoondrift/api"
	"spoondrift/circ"
)

// allThere reports whether a circuit has all these wires.
func allThere(l []int, c api.Circuit) bool {
	_, is := find(l, func(k int) bool { return !isBelow(k, c.Wires) })
	return !is
}

// workWith puts a circuit to work with some of its wires, which are told as the state in which they alone are 1.
func workWith(c api.Circuit, l []int) (w work, state int, e api.Errno) {
	if w, e = workOf(c); e != api.OK {
		return work{}, 0, e
	}
	if !allThere(l, c) {
		return work{}, 0, api.ErrNot
	}
	if anyTwice(l) {
		return work{}, 0, api.ErrTwice
	}
	for _, k := range l {
		state = turn(state, k)
	}
	return w, state, api.OK
}

// Clean returns a state of which a circuit leaves something behind on ancillas.
func Clean(c api.Circuit, ancillas []int) (int, api.Errno) {
	w, all, e := workWith(c, ancillas)
	if e != api.OK {
		return 0, e
	}
	return w.first(func(x, y int) bool { return x&all == 0 && y&all != 0 })
}

// Borrowed returns a state by which wires are not borrowed clean.
func Borrowed(c api.Circuit, wires []int) (int, api.Errno) {
	w, lent, e := workWith(c, wires)
	if e != api.OK {
		return 0, e
	}
	return w.first(func(x, y int) bool {
		without := w.take(x &^ lent)
		return x&lent != y&lent || y&^lent != without&^lent
	})
}

// Keep returns a circuit that copies outs, and undoes all else. Each of its gates undoes itself.
func Keep(c api.Circuit, outs []int) (api.Circuit, api.Errno) {
	if e := Check(c); e != api.OK {
		return api.Circuit{}, e
	}
	if !allThere(outs, c) {
		return api.Circuit{}, api.ErrNot
	}
	wires := c.Wires + len(outs)
	if wires > api.MaxWires {
		return api.Circuit{}, api.ErrFull
	}
	there, _ := circ.Widen(c, wires, c.Bits)
	back, _ := circ.Inverse(there)
	copies := api.Circuit{Wires: wires, Bits: c.Bits}
	for i, out := range outs {
		copies.Gates = append(copies.Gates, turning(c.Wires+i, out).given())
	}
	kept, e := circ.Compose(there, copies)
	if e != api.OK {
		return api.Circuit{}, e
	}
	return circ.Compose(kept, back)
}

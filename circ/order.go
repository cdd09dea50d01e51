package circ

import (
	"iter"
	"slices"

	"spoondrift/api"
)

// Commute reports whether two gates of a circuit commute.
func Commute(c api.Circuit, i, j int) (bool, api.Errno) { return askTwo(c, i, j, gate.commutes) }

// Undo reports whether two gates of a circuit undo one another.
func Undo(c api.Circuit, i, j int) (bool, api.Errno) { return askTwo(c, i, j, gate.undoes) }

// askTwo asks two gates of a circuit.
func askTwo(c api.Circuit, i, j int, ask func(g, h gate) bool) (bool, api.Errno) {
	w, e := workOf(c)
	if e != api.OK {
		return false, e
	}
	if !isBelow(i, len(w.gates)) || !isBelow(j, len(w.gates)) {
		return false, api.ErrNot
	}
	return ask(w.gates[i], w.gates[j]), api.OK
}

// undoes reports whether two gates undo one another.
func (g gate) undoes(h gate) bool { return g.inverse().key() == h.key() }

// Tidy returns the gates in the first order that commuting gates allow.
func Tidy(c api.Circuit) (api.Circuit, api.Errno) {
	w, e := workOf(c)
	if e != api.OK {
		return api.Circuit{}, e
	}
	return w.with(w.tidied()), api.OK
}

// Equal reports whether Tidy of two circuits is the same.
func Equal(c, d api.Circuit) (bool, api.Errno) {
	v, w, e := workOfTwo(c, d)
	if e != api.OK {
		return false, e
	}
	return Same(v.with(v.tidied()), w.with(w.tidied())), api.OK
}

// tidied takes the first gate, in the order of gates, that need not wait for any other one, again and again.
func (w work) tidied() []gate {
	w.near = gate.mustStay
	waits := make([]int, len(w.gates)) // for how many gates before it that are left
	for i := range w.gates {
		for range w.neighbours(i, 0, i) {
			waits[i]++
		}
	}
	var order []gate
	for range w.gates {
		next := w.firstReady(waits)
		order = append(order, w.gates[next])
		waits[next] = taken
		for i := range w.neighbours(next, next+1, len(w.gates)) {
			waits[i]--
		}
	}
	return order
}

// taken stands for how many gates one that is not left any more waits for.
const taken = -1

// firstReady returns the number of the first gate, in the order of gates, that waits for no other one. The first gate
// that is left does so, so that there is one.
func (w work) firstReady(waits []int) int {
	best := none
	for i, g := range w.gates {
		if waits[i] == 0 && (best == none || g.compare(w.gates[best]) < 0) {
			best = i
		}
	}
	return best
}

// Cancel returns the circuit without gates that undo one another.
func Cancel(c api.Circuit) (api.Circuit, api.Errno) {
	w, e := workOf(c)
	if e != api.OK {
		return api.Circuit{}, e
	}
	var l list
	l.undone = map[gate]int{}
	for _, g := range w.gates {
		l.meet(g)
	}
	return w.with(l.gates), api.OK
}

// list is the gates that Cancel keeps, and how many of them the gates with a key undo.
type list struct {
	gates  []gate
	undone map[gate]int
}

// meet takes the gate that g undoes out of the list, or puts g at its end.
func (l *list) meet(g gate) {
	if at := l.find(g); at != none {
		l.undone[g.key()]--
		l.gates = slices.Delete(l.gates, at, at+1)
		return
	}
	l.undone[g.inverse().key()]++
	l.gates = append(l.gates, g)
}

// find returns the number of the gate of the list that g undoes. Gates that undo one another commute, so that none is
// missed where the gates that commute with g end.
func (l *list) find(g gate) int {
	if l.undone[g.key()] == 0 {
		return none
	}
	found := none
search:
	for i := range lastWhile(l.gates, g.commutes) {
		if l.gates[i].undoes(g) {
			found = i
			break search
		}
	}
	return found
}

// lastWhile yields the numbers of elements, from the last one on to the first one, as long as each one is as it is asked.
func lastWhile[T any](l []T, ask func(T) bool) iter.Seq[int] {
	return func(yield func(int) bool) {
		for i, x := range slices.Backward(l) {
			if !ask(x) || !yield(i) {
				return
			}
		}
	}
}

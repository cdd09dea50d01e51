package rev

import (
	"iter"

	"spoondrift/api"
)

// work is a classical circuit at work: gates has what each gate makes of a state.
type work struct {
	api.Circuit
	gates []func(state int) int
}

// workOf puts a circuit to work; Check has the only errors.
func workOf(c api.Circuit) (work, api.Errno) {
	if e := Check(c); e != api.OK {
		return work{}, e
	}
	w := work{Circuit: c}
	for _, g := range c.Gates {
		w.gates = append(w.gates, moveOf(gateOf(g)).take)
	}
	return w, api.OK
}

// take returns what the circuit makes of a state.
func (w work) take(state int) int {
	for _, do := range w.gates {
		state = do(state)
	}
	return state
}

// states yields all states, from 0 on, with what the circuit makes of them.
func (w work) states() iter.Seq2[int, int] {
	return func(yield func(int, int) bool) {
		for x := range 1 << w.Wires {
			if !yield(x, w.take(x)) {
				return
			}
		}
	}
}

// table returns the table of the circuit.
func (w work) table() []int {
	var l []int
	for _, y := range w.states() {
		l = append(l, y)
	}
	return l
}

// first returns the least state that, with what the circuit makes of it, is so.
func (w work) first(is func(x, y int) bool) (int, api.Errno) {
	for x, y := range w.states() {
		if is(x, y) {
			return x, api.OK
		}
	}
	return 0, api.ErrNone
}

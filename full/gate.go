package full

import (
	"slices"

	"spoondrift/api"
	"spoondrift/circ"
	"spoondrift/matrix"
	"spoondrift/ring"
)

// checkGate returns the error of a gate that is to be applied to a state of so many wires.
func checkGate(g api.Gate, wires int) api.Errno {
	if g.Kind < api.X || g.Kind > api.CCX {
		return api.ErrRange
	}
	if len(g.Wires) != circ.Arity(g.Kind) {
		return api.ErrMany
	}
	there := func(wire int) api.Errno {
		if !isBelow(wire, wires) {
			return api.ErrNot
		}
		return api.OK
	}
	if e := firstError(g.Wires, there); e != api.OK {
		return e
	}
	for i, wire := range g.Wires {
		if slices.Contains(g.Wires[:i], wire) {
			return api.ErrTwice
		}
	}
	return api.OK
}

// factor is a number of an operator that is not 0, and its column.
type factor struct {
	column int
	number api.Num
}

// operator is the factors of each row, from the left to the right.
type operator [][]factor

// operators are those that were made, by their kinds.
type operators map[int]operator

// of returns the operator of a kind from X to CCX.
func (made operators) of(kind int) operator {
	if o, ok := made[kind]; ok {
		return o
	}
	rows, _ := matrix.Of(kind)
	o := make(operator, len(rows))
	for i, row := range rows {
		for j, x := range row {
			if x != (api.Num{}) {
				o[i] = append(o[i], factor{j, x})
			}
		}
	}
	made[kind] = o
	return o
}

// gate is a right gate at work. Its operator is that of its kind, or of X for a Reset; next tells where a run can be
// after it.
type gate struct {
	api.Gate
	operator operator
	next     func(p point) ([]point, api.Errno)
}

// gate puts a right gate to work.
func (made operators) gate(g api.Gate) gate {
	w := gate{Gate: g}
	switch g.Kind {
	case api.Measure:
		w.next = w.measure
	case api.Reset:
		w.operator = made.of(api.X)
		w.next = w.reset
	default:
		w.operator = made.of(g.Kind)
		w.next = w.pass
	}
	return w
}

// apply returns the state after the operator was applied.
func (g gate) apply(v state) (state, api.Errno) {
	after := make(state, len(v))
	for k := range len(v) {
		var e api.Errno
		if after[k], e = g.amplitude(v, k); e != api.OK {
			return nil, e
		}
	}
	return after, api.OK
}

// amplitude returns what the basis state k has after the operator was applied.
func (g gate) amplitude(v state, k int) (api.Num, api.Errno) {
	var sum api.Num
	for _, f := range g.operator[g.values(k)] {
		x := v[g.with(k, f.column)]
		if x == (api.Num{}) {
			continue // the product is 0: it is not too large, and changes no sum
		}
		product, e := ring.Mul(f.number, x)
		if e != api.OK {
			return api.Num{}, e
		}
		if sum, e = ring.Add(sum, product); e != api.OK {
			return api.Num{}, e
		}
	}
	return sum, api.OK
}

// values returns the values of the gate's wires in the basis state k, the first wire lowest.
func (g gate) values(k int) int {
	values := 0
	for i, wire := range g.Wires {
		values |= k >> wire & 1 << i
	}
	return values
}

// with returns the basis state k with other values of the gate's wires.
func (g gate) with(k, values int) int {
	for i, wire := range g.Wires {
		k = k&^(1<<wire) | values>>i&1<<wire
	}
	return k
}

// pass applies the gate, unless it has an If and its bit is 0.
func (g gate) pass(p point) ([]point, api.Errno) {
	if g.If != 0 && p.bits>>(g.If-1)&1 == 0 {
		return []point{p}, api.OK
	}
	var e api.Errno
	p.state, e = g.apply(p.state)
	return []point{p}, e
}

// measure finds both outcomes of the wire, which become the bit.
func (g gate) measure(p point) ([]point, api.Errno) {
	both := p.found(g.Wires[0])
	for outcome := range both {
		q := &both[outcome]
		q.bits = q.bits&^(1<<g.Bit) | outcome<<g.Bit
	}
	return both[:], api.OK
}

// reset finds both outcomes of the wire, and applies X behind the outcome 1.
func (g gate) reset(p point) ([]point, api.Errno) {
	both := p.found(g.Wires[0])
	var e api.Errno
	both[1].state, e = g.apply(both[1].state)
	return both[:], e
}

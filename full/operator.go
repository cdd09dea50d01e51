package full

import (
	"spoondrift/api"
	"spoondrift/circ"
	"spoondrift/matrix"
)

// plainOf puts a plain circuit to work that has an operator.
func plainOf(c api.Circuit) (run, api.Errno) {
	plain, e := circ.Plain(c)
	if e != api.OK {
		return run{}, e
	}
	if !plain {
		return run{}, api.ErrClash
	}
	if c.Wires > api.MaxState {
		return run{}, api.ErrRange
	}
	return runOf(c, 0), api.OK
}

// column returns the state after all gates of a plain circuit, from the basis state k.
func (r run) column(k int) (state, api.Errno) {
	v := basis(r.Wires, k)
	for _, g := range r.gates {
		var e api.Errno
		if v, e = g.apply(v); e != api.OK {
			return nil, e
		}
	}
	return v, api.OK
}

// Matrix returns the operator of a plain circuit.
func Matrix(c api.Circuit) ([][]api.Num, api.Errno) {
	r, e := plainOf(c)
	if e != api.OK {
		return nil, e
	}
	rows := make([][]api.Num, 1<<r.Wires)
	for i := range rows {
		rows[i] = make([]api.Num, len(rows))
	}
	for k := range len(rows) {
		column, e := r.column(k)
		if e != api.OK {
			return nil, e
		}
		for i, x := range column {
			rows[i][k] = x
		}
	}
	return rows, api.OK
}

// Amplitude returns the amplitude of a basis state after a plain circuit, from another basis state.
func Amplitude(c api.Circuit, in, out int) (api.Num, api.Errno) {
	r, e := plainOf(c)
	if e != api.OK {
		return api.Num{}, e
	}
	if n := 1 << r.Wires; !isBelow(in, n) || !isBelow(out, n) {
		return api.Num{}, api.ErrNot
	}
	column, e := r.column(in)
	if e != api.OK {
		return api.Num{}, e
	}
	return column[out], api.OK
}

// Equal returns the k from 0 to 7 so that the operator of c is w^k times that of d.
func Equal(c, d api.Circuit) (int, api.Errno) {
	if e := firstError([]api.Circuit{c, d}, circ.Check); e != api.OK {
		return 0, e
	}
	if c.Wires != d.Wires {
		return 0, api.ErrClash
	}
	m, e := Matrix(c)
	if e != api.OK {
		return 0, e
	}
	n, e := Matrix(d)
	if e != api.OK {
		return 0, e
	}
	return matrix.Phase(m, n)
}

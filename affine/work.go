package affine

import (
	"slices"

	"spoondrift/api"
	"spoondrift/bits"
)

// work is a right map at work, with rows of its own. The functions of package bits have no error for its rows.
type work struct{ api.Affine }

// workOf puts a map to work; Check has the only errors.
func workOf(m api.Affine) (work, api.Errno) {
	if e := Check(m); e != api.OK {
		return work{}, e
	}
	m.Rows = slices.Clone(m.Rows)
	return work{m}, api.OK
}

// identity returns the map that changes nothing.
func identity(wires int) work {
	rows, _ := bits.Identity(wires)
	return work{api.Affine{Wires: wires, Rows: rows}}
}

// take returns the basis state to which x is taken.
func (w work) take(x int) int {
	y, _ := bits.Apply(w.Rows, w.Wires, x)
	return sum(y, w.Shift)
}

// then returns the map that does what w does, and then what v does.
func (w work) then(v work) work {
	rows, _ := bits.Mul(v.Rows, v.Wires, w.Rows, w.Wires)
	return work{api.Affine{Wires: w.Wires, Rows: rows, Shift: v.take(w.Shift)}}
}

// inverse returns the map that takes all back.
func (w work) inverse() work {
	rows, _ := bits.Invert(w.Rows, w.Wires)
	back := work{api.Affine{Wires: w.Wires, Rows: rows}}
	back.Shift = back.take(w.Shift)
	return back
}

// turn turns a wire over behind the map.
func (w *work) turn(wire int) { w.Shift = sum(w.Shift, 1<<wire) }

// add adds what one wire has to another one, behind the map.
func (w *work) add(from, to int) {
	w.Rows[to] = sum(w.Rows[to], w.Rows[from])
	if has(w.Shift, from) {
		w.turn(to)
	}
}

// exchange exchanges what two wires have behind the map.
func (w *work) exchange(i, k int) {
	w.add(i, k)
	w.add(k, i)
	w.add(i, k)
}

// parities returns what all wires have behind the map.
func (w *work) parities() []int {
	l := slices.Clone(w.Rows)
	for k := range w.Wires {
		if has(w.Shift, k) {
			l[k] = sum(l[k], 1<<w.Wires)
		}
	}
	return l
}

// has reports whether a row has 1 in the column k.
func has(row, k int) bool { return row>>k&1 == 1 }

// sum returns the sum of some rows.
func sum(l ...int) int {
	total := 0
	for _, row := range l {
		total ^= row
	}
	return total
}

package affine

import (
	"iter"
	"slices"

	"spoondrift/api"
	"spoondrift/bits"
)

// columns are those of the rows of a small map; behind them there is 0.
type columns [MaxSmall]int

// with returns the columns with one more row i, which was 0.
func (c columns) with(i, row int) columns {
	for k := range c {
		c[k] = sum(c[k], row>>k&1<<i)
	}
	return c
}

// small is a right map of at most MaxSmall wires.
type small struct {
	wires   int
	columns columns
	shift   int
}

// smallOf returns a small map that is at work.
func smallOf(w work) small {
	m := small{wires: w.Wires, shift: w.Shift}
	l, _ := bits.Transpose(w.Rows, w.Wires)
	copy(m.columns[:], l)
	return m
}

// smallFrom takes a map in that must be small.
func smallFrom(m api.Affine) (small, api.Errno) {
	w, e := workOf(m)
	if e != api.OK {
		return small{}, e
	}
	if w.Wires > MaxSmall {
		return small{}, api.ErrLarge
	}
	return smallOf(w), api.OK
}

// given gives a small map out.
func (m small) given() api.Affine {
	rows, _ := bits.Transpose(m.columns[:m.wires], m.wires)
	return api.Affine{Wires: m.wires, Rows: rows, Shift: m.shift}
}

// take returns the basis state to which x is taken.
func (m small) take(x int) int {
	y := m.shift
	for k, column := range m.columns {
		if has(x, k) {
			y = sum(y, column)
		}
	}
	return y
}

// then returns the map that does what m does, and then takes basis states further as another map does.
func (m small) then(take func(x int) int) small {
	shift := take(0)
	for k, column := range m.columns {
		m.columns[k] = sum(take(column), shift)
	}
	m.shift = take(m.shift)
	return m
}

// matrices yields the columns of all rows that can be inverted, in the order of the rows. A row may follow others if
// it is no sum of them.
func matrices(wires int) iter.Seq[columns] {
	return func(yield func(columns) bool) {
		var walk func(c columns, i int, sums []int) bool
		walk = func(c columns, i int, sums []int) bool {
			if i == wires {
				return yield(c)
			}
			for row := range 1 << wires {
				if slices.Contains(sums, row) {
					continue
				}
				more := slices.Clone(sums)
				for _, x := range sums {
					more = append(more, sum(x, row))
				}
				if !walk(c.with(i, row), i+1, more) {
					return false
				}
			}
			return true
		}
		walk(columns{}, 0, []int{0})
	}
}

// numbered yields all right maps with their numbers, in order.
func numbered(wires int) iter.Seq2[int, small] {
	return func(yield func(int, small) bool) {
		number := 0
		for c := range matrices(wires) {
			for shift := range 1 << wires {
				if !yield(number, small{wires, c, shift}) {
					return
				}
				number++
			}
		}
	}
}

// Count returns how many maps there are.
func Count(wires int) (int, api.Errno) {
	if e := checkWires(wires, MaxSmall); e != api.OK {
		return 0, e
	}
	count := 0
	for range numbered(wires) {
		count++
	}
	return count, api.OK
}

// Number returns the number of a map.
func Number(m api.Affine) (int, api.Errno) {
	own, e := smallFrom(m)
	if e != api.OK {
		return 0, e
	}
	number := own.shift
	for c := range matrices(own.wires) {
		if c == own.columns {
			break
		}
		number += 1 << own.wires
	}
	return number, api.OK
}

// Nth returns the map with a number.
func Nth(wires, number int) (api.Affine, api.Errno) {
	if e := checkWires(wires, MaxSmall); e != api.OK {
		return api.Affine{}, e
	}
	for i, m := range numbered(wires) {
		if i == number {
			return m.given(), api.OK
		}
	}
	return api.Affine{}, api.ErrNot
}

package matrix

import (
	"spoondrift/api"
	"spoondrift/ring"
)

// Add returns m + n.
func Add(m, n [][]api.Num) ([][]api.Num, api.Errno) {
	a, b, e := workOfTwo(m, n)
	if e != api.OK {
		return nil, e
	}
	if a.size != b.size {
		return nil, api.ErrClash
	}
	element := func(p place) (api.Num, api.Errno) { return total(a.at(p), b.at(p)) }
	return recipe{a.size, element}.rows()
}

// Mul returns m times n.
func Mul(m, n [][]api.Num) ([][]api.Num, api.Errno) {
	a, b, e := workOfTwo(m, n)
	if e != api.OK {
		return nil, e
	}
	if a.size[1] != b.size[0] {
		return nil, api.ErrClash
	}
	element := func(p place) (api.Num, api.Errno) {
		return products(a.rows[p[0]], func(k int) api.Num { return b.at(place{k, p[1]}) })
	}
	return recipe{place{a.size[0], b.size[1]}, element}.rows()
}

// Kron returns a block for each number of m: n times this number.
func Kron(m, n [][]api.Num) ([][]api.Num, api.Errno) {
	a, b, e := workOfTwo(m, n)
	if e != api.OK {
		return nil, e
	}
	size := place{a.size[0] * b.size[0], a.size[1] * b.size[1]}
	if !isSide(size[0]) || !isSide(size[1]) {
		return nil, api.ErrMany
	}
	element := func(p place) (api.Num, api.Errno) {
		block := place{p[0] / b.size[0], p[1] / b.size[1]}
		inside := place{p[0] % b.size[0], p[1] % b.size[1]}
		return ring.Mul(a.at(block), b.at(inside))
	}
	return recipe{size, element}.rows()
}

// Scale returns m with all numbers times x.
func Scale(m [][]api.Num, x api.Num) ([][]api.Num, api.Errno) {
	a, e := workOf(m)
	if e != api.OK {
		return nil, e
	}
	if e := ring.Check(x); e != api.OK {
		return nil, e
	}
	element := func(p place) (api.Num, api.Errno) { return ring.Mul(a.at(p), x) }
	return recipe{a.size, element}.rows()
}

// Dagger returns the conjugate of m with rows and columns exchanged.
func Dagger(m [][]api.Num) ([][]api.Num, api.Errno) {
	a, e := workOf(m)
	if e != api.OK {
		return nil, e
	}
	return recipe{a.size.across(), a.conjugateAcross}.rows()
}

// Trace returns the sum of the numbers at the same row and column.
func Trace(m [][]api.Num) (api.Num, api.Errno) {
	a, e := workOf(m)
	if e != api.OK {
		return api.Num{}, e
	}
	if !a.isSquare() {
		return api.Num{}, api.ErrClash
	}
	var diagonal []api.Num
	for p := range a.size.places() {
		if p == p.across() {
			diagonal = append(diagonal, a.at(p))
		}
	}
	return total(diagonal[0], diagonal[1:]...)
}

// Unitary reports whether Dagger of m times m is the identity.
func Unitary(m [][]api.Num) (bool, api.Errno) {
	a, e := workOf(m)
	if e != api.OK || !a.isSquare() {
		return false, e
	}
	dagger, e := Dagger(a.rows)
	if e != api.OK {
		return false, e
	}
	product, e := Mul(dagger, a.rows)
	if e != api.OK {
		return false, e
	}
	return Same(product, identity(a.size[0]))
}

// Apply returns m times the vector v.
func Apply(m [][]api.Num, v []api.Num) ([]api.Num, api.Errno) {
	a, b, e := workOfTwo(m, rowOf(v))
	if e != api.OK {
		return nil, e
	}
	if a.size[1] != b.size[1] {
		return nil, api.ErrClash
	}
	result := make([]api.Num, a.size[0])
	for i, row := range a.rows {
		if result[i], e = products(row, func(k int) api.Num { return b.rows[0][k] }); e != api.OK {
			return nil, e
		}
	}
	return result, api.OK
}

// Inner returns the sum of the products of the conjugates of v's numbers and u's.
func Inner(v, u []api.Num) (api.Num, api.Errno) {
	a, b, e := workOfTwo(rowOf(v), rowOf(u))
	if e != api.OK {
		return api.Num{}, e
	}
	if a.size != b.size {
		return api.Num{}, api.ErrClash
	}
	conjugates := make([]api.Num, a.size[1])
	for k := range conjugates {
		if conjugates[k], e = a.conjugateAcross(place{k, 0}); e != api.OK {
			return api.Num{}, e
		}
	}
	return products(conjugates, func(k int) api.Num { return b.rows[0][k] })
}

// products returns the sum of the products of the numbers of l and those of other, from the left to the right.
func products(l []api.Num, other func(k int) api.Num) (api.Num, api.Errno) {
	var sum api.Num
	for k, x := range l {
		if x == (api.Num{}) {
			continue // the product is 0: it is not too large, and changes no sum
		}
		y := other(k)
		if y == (api.Num{}) {
			continue
		}
		product, e := ring.Mul(x, y)
		if e != api.OK {
			return api.Num{}, e
		}
		if sum, e = total(sum, product); e != api.OK {
			return api.Num{}, e
		}
	}
	return sum, api.OK
}

// total adds numbers from the left to the right.
func total(first api.Num, others ...api.Num) (api.Num, api.Errno) {
	sum := first
	for _, x := range others {
		var e api.Errno
		if sum, e = ring.Add(sum, x); e != api.OK {
			return api.Num{}, e
		}
	}
	return sum, api.OK
}

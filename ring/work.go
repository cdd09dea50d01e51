package ring

import (
	"iter"

	"spoondrift/api"
)

// coefs are the coefficients A, B, C and D of a number, in this order.
type coefs [4]int

// span goes from the least to the greatest of some integers.
type span struct{ low, high int }

// work is a number at work: its coefficients may be too large, and its K may be anything.
//
// No int, of 64 bits, overflows: the coefficients of a product, and their sums and differences that halve needs, are at most
// 4 * 2^60, and so are those of two right numbers that are raised to the same K and added.
type work struct{ api.Num }

// coefsOf returns the coefficients of x.
func coefsOf(x api.Num) coefs { return coefs{x.A, x.B, x.C, x.D} }

// number returns the number with the coefficients c over r^k.
func (c coefs) number(k int) api.Num {
	return api.Num{A: c[0], B: c[1], C: c[2], D: c[3], K: k}
}

// within reports whether no coefficient is above limit, or below its negative.
func (c coefs) within(limit int) bool {
	limits := span{-limit, limit}
	reach := limits
	for _, part := range c {
		reach = span{min(reach.low, part), max(reach.high, part)}
	}
	return reach == limits
}

// plus returns the sum of c and d.
func (c coefs) plus(d coefs) coefs {
	for i, part := range d {
		c[i] += part
	}
	return c
}

// times returns the product of c and d, in which w^4 is -1.
func (c coefs) times(d coefs) coefs {
	var product coefs
	for i, a := range c {
		for j, b := range d {
			if i+j < len(product) {
				product[i+j] += a * b
			} else {
				product[i+j-len(product)] -= a * b
			}
		}
	}
	return product
}

// negative returns c times -1.
func (c coefs) negative() coefs { return coefs{-c[0], -c[1], -c[2], -c[3]} }

// conjugate returns c with w^7 in place of w.
func (c coefs) conjugate() coefs { return coefs{c[0], -c[3], -c[2], -c[1]} }

// dotted returns c with -w in place of w.
func (c coefs) dotted() coefs { return coefs{c[0], -c[1], c[2], -c[3]} }

// turned returns c times w.
func (c coefs) turned() coefs { return coefs{-c[3], c[0], c[1], c[2]} }

// powers yields n and w^n times x, for n from 0 to 7. They are in least form if x is.
func powers(x api.Num) iter.Seq2[int, api.Num] {
	return func(yield func(int, api.Num) bool) {
		c := coefsOf(x)
		for n := range 8 {
			if !yield(n, c.number(x.K)) {
				return
			}
			c = c.turned()
		}
	}
}

// raise multiplies the coefficients with r, and takes one more r below them: the value stays.
func (x *work) raise() {
	x.Num = api.Num{A: x.B - x.D, B: x.A + x.C, C: x.B + x.D, D: x.C - x.A, K: x.K + 1}
}

// halve undoes raise; it reports whether K was above 0 and integers were left.
func (x *work) halve() bool {
	if x.K <= 0 || (x.A-x.C)%2 != 0 || (x.B-x.D)%2 != 0 {
		return false
	}
	x.Num = api.Num{A: (x.B - x.D) / 2, B: (x.A + x.C) / 2, C: (x.B + x.D) / 2, D: (x.C - x.A) / 2, K: x.K - 1}
	return true
}

// least returns the least form: ErrLarge if that one is not right.
func (x work) least() (api.Num, api.Errno) {
	if coefsOf(x.Num) == (coefs{}) {
		return api.Num{}, api.OK
	}
	// The greatest coefficient never becomes lesser when it is raised, so that one that is too large stays so.
	for x.K < 0 && coefsOf(x.Num).within(api.MaxCoef) {
		x.raise()
	}
	for halve := x.halve; halve(); {
	}
	if Check(x.Num) != api.OK {
		return api.Num{}, api.ErrLarge
	}
	return x.Num, api.OK
}

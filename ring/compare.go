package ring

import (
	"math/bits"

	"spoondrift/api"
)

// Divide returns the number z with x = z y.
func Divide(x, y api.Num) (api.Num, api.Errno) {
	x, y, e := leastTwo(x, y)
	if e != api.OK {
		return api.Num{}, e
	}
	if !coefsOf(x).within(MaxPart) || !coefsOf(y).within(MaxPart) {
		return api.Num{}, api.ErrLarge
	}
	if y == (api.Num{}) {
		return api.Num{}, api.ErrNone
	}
	return quotient(x, y)
}

// quotient returns x / y: above, x times what makes y an integer; below, this integer without its factors of 2,
// which are powers of r. An odd integer divides a number only if it divides each of its coefficients.
func quotient(x, y api.Num) (api.Num, api.Errno) {
	others, below := companion(coefsOf(y))
	above := coefsOf(x).times(others)
	below, twos := oddPart(below)
	divides := func(part int) api.Errno {
		if part%below != 0 {
			return api.ErrNone
		}
		return api.OK
	}
	if e := firstError(above[:], divides); e != api.OK {
		return api.Num{}, e
	}
	for i := range above {
		above[i] /= below
	}
	return work{above.number(x.K - y.K + 2*twos)}.least()
}

// companion returns coefficients that make an integer above 0 of c, and this integer. For coefficients up to
// MaxPart, the integer is at most 2^52, and x times the companion has coefficients below 2^54.
func companion(c coefs) (coefs, int) {
	conjugate := c.conjugate()
	norm := c.times(conjugate) // a + b r
	dotted := norm.dotted()    // a - b r
	return conjugate.times(dotted), norm.times(dotted)[0]
}

// oddPart returns n, which is above 0, without its factors of 2, and how many those are.
func oddPart(n int) (odd, twos int) {
	for range bits.Len(uint(n)) {
		if n%2 == 0 {
			n /= 2
			twos++
		}
	}
	return n, twos
}

// Real reports whether x is its own conjugate.
func Real(x api.Num) (bool, api.Errno) {
	if e := Check(x); e != api.OK {
		return false, e
	}
	return isReal(x), api.OK
}

// isReal reports whether x is its own conjugate: over one power of r, a value has only one list of coefficients.
func isReal(x api.Num) bool {
	return coefsOf(x) == coefsOf(x).conjugate()
}

// Less reports whether x is less than y.
func Less(x, y api.Num) (bool, api.Errno) {
	if e := checkAll(x, y); e != api.OK {
		return false, e
	}
	if !isReal(x) || !isReal(y) {
		return false, api.ErrClash
	}
	difference, e := Sub(x, y)
	if e != api.OK {
		return false, e
	}
	return isNegative(difference), api.OK
}

// isNegative reports whether a real number is less than 0: whether A is less than -B r, as D is -B.
// Squares that keep their signs have the same order as what is squared.
func isNegative(x api.Num) bool {
	return signedSquare(x.A)+2*signedSquare(x.B) < 0
}

// signedSquare returns n times n, with the sign of n.
func signedSquare(n int) int {
	if n < 0 {
		return -n * n
	}
	return n * n
}

// Phase returns the n from 0 to 7 with x = w^n y.
func Phase(x, y api.Num) (int, api.Errno) {
	x, y, e := leastTwo(x, y)
	if e != api.OK {
		return 0, e
	}
	found := map[api.Num]int{}
	for n, power := range powers(y) {
		if _, known := found[power]; !known { // all powers are the same if y is 0
			found[power] = n
		}
	}
	n, ok := found[x]
	if !ok {
		return 0, api.ErrNone
	}
	return n, api.OK
}

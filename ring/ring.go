// Package ring calculates with exact numbers. It is layer 1: see shared/doc/01-ring.md.
package ring

import "spoondrift/api"

// The limits and kinds of layer 1.
const MaxPart = 1 << 12 // coefficients of what is divided
const MaxPower = 64

// Check returns ErrRange if the power of r below x is not allowed, and ErrLarge if a coefficient is not.
func Check(x api.Num) api.Errno {
	if x.K < 0 || x.K > api.MaxRoot {
		return api.ErrRange
	}
	if !coefsOf(x).within(api.MaxCoef) {
		return api.ErrLarge
	}
	return api.OK
}

// Least returns the least form of x.
func Least(x api.Num) (api.Num, api.Errno) {
	if e := Check(x); e != api.OK {
		return api.Num{}, e
	}
	return work{x}.least()
}

// Same reports whether x and y have the same value.
func Same(x, y api.Num) (bool, api.Errno) {
	x, y, e := leastTwo(x, y)
	return e == api.OK && x == y, e
}

// leastTwo returns the least forms of x and y. Those of right numbers are right, so that Check has the only errors.
func leastTwo(x, y api.Num) (a, b api.Num, e api.Errno) {
	if e = checkAll(x, y); e == api.OK {
		a, _ = Least(x)
		b, _ = Least(y)
	}
	return a, b, e
}

// checkAll returns the error of the first number that is not right.
func checkAll(l ...api.Num) api.Errno {
	return firstError(l, Check)
}

// firstError asks one element after the other, and returns the first error.
func firstError[T any](l []T, ask func(T) api.Errno) api.Errno {
	for _, x := range l {
		if e := ask(x); e != api.OK {
			return e
		}
	}
	return api.OK
}

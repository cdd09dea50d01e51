package ring

import (
	"slices"

	"spoondrift/api"
)

// operation puts two numbers together.
type operation struct {
	join func(x, y work) work
}

// of returns what the operation makes of x and y.
func (o operation) of(x, y api.Num) (api.Num, api.Errno) {
	if e := checkAll(x, y); e != api.OK {
		return api.Num{}, e
	}
	return o.join(work{x}, work{y}).least()
}

// Add returns x + y.
func Add(x, y api.Num) (api.Num, api.Errno) {
	return operation{sumOf}.of(x, y)
}

// Sub returns x - y.
func Sub(x, y api.Num) (api.Num, api.Errno) {
	difference := func(x, y work) work {
		return sumOf(x, work{coefsOf(y.Num).negative().number(y.K)})
	}
	return operation{difference}.of(x, y)
}

// Mul returns x times y.
func Mul(x, y api.Num) (api.Num, api.Errno) {
	return operation{productOf}.of(x, y)
}

// sumOf returns x + y, over the greater one of both powers of r.
func sumOf(x, y work) work {
	k := max(x.K, y.K)
	for x.K < k {
		x.raise()
	}
	for y.K < k {
		y.raise()
	}
	return work{coefsOf(x.Num).plus(coefsOf(y.Num)).number(k)}
}

// productOf returns x times y.
func productOf(x, y work) work {
	return work{coefsOf(x.Num).times(coefsOf(y.Num)).number(x.K + y.K)}
}

// Neg returns -x.
func Neg(x api.Num) (api.Num, api.Errno) {
	return changed(x, coefs.negative)
}

// Conj returns the conjugate of x.
func Conj(x api.Num) (api.Num, api.Errno) {
	return changed(x, coefs.conjugate)
}

// Dot returns the dot of x.
func Dot(x api.Num) (api.Num, api.Errno) {
	y, e := changed(x, coefs.dotted)
	if e == api.OK && x.K%2 != 0 {
		return Neg(y)
	}
	return y, e
}

// changed returns the number with other coefficients over the same power of r.
func changed(x api.Num, change func(coefs) coefs) (api.Num, api.Errno) {
	if e := Check(x); e != api.OK {
		return api.Num{}, e
	}
	return Least(change(coefsOf(x)).number(x.K))
}

// Norm returns x times its conjugate.
func Norm(x api.Num) (api.Num, api.Errno) {
	y, e := Conj(x)
	if e != api.OK {
		return api.Num{}, e
	}
	return Mul(x, y)
}

// Omega returns w^n.
func Omega(n int) api.Num {
	var x api.Num
	for k, power := range powers(api.Num{A: 1}) {
		if k == n&7 { // n modulo 8, for a negative n too
			x = power
		}
	}
	return x
}

// Root returns 1 / r^k.
func Root(k int) (api.Num, api.Errno) {
	x := api.Num{A: 1, K: k}
	if e := Check(x); e != api.OK {
		return api.Num{}, e
	}
	return x, api.OK
}

// Power returns x^n: ErrLarge if a power before it, or itself, is too large.
func Power(x api.Num, n int) (api.Num, api.Errno) {
	if e := Check(x); e != api.OK {
		return api.Num{}, e
	}
	if n < 0 || n > MaxPower {
		return api.Num{}, api.ErrRange
	}
	if n == 0 {
		return Omega(0), api.OK
	}
	var power func(n int) (api.Num, api.Errno)
	power = func(n int) (api.Num, api.Errno) {
		if n == 1 {
			return Least(x)
		}
		before, e := power(n - 1)
		if e != api.OK {
			return api.Num{}, e
		}
		return Mul(before, x)
	}
	return power(n)
}

// Sum returns the sum of l: ErrLarge if a sum of its first numbers is too large.
func Sum(l []api.Num) (api.Num, api.Errno) {
	if e := checkAll(l...); e != api.OK {
		return api.Num{}, e
	}
	return total(slices.Clone(l)...)
}

// total adds right numbers from the left to the right.
func total(l ...api.Num) (api.Num, api.Errno) {
	var sum api.Num
	for _, x := range l {
		var e api.Errno
		if sum, e = Add(sum, x); e != api.OK {
			return api.Num{}, e
		}
	}
	return sum, api.OK
}

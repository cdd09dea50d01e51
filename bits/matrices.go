package bits

import "spoondrift/api"

// Mul returns a product.
func Mul(a []int, m int, b []int, n int) ([]int, api.Errno) {
	if e := checkAll(rows{a, m}, rows{b, n}); e != api.OK {
		return nil, e
	}
	if len(b) != m {
		return nil, api.ErrClash
	}
	product := make([]int, len(a))
	for i, row := range a {
		product[i] = sum(picked(b, row)...)
	}
	return product, api.OK
}

// picked returns the rows whose numbers are the bits of which.
func picked(l []int, which int) []int {
	var some []int
	for i, row := range l {
		if has(which, i) {
			some = append(some, row)
		}
	}
	return some
}

// Apply returns what a matrix makes of a row.
func Apply(l []int, n, x int) (int, api.Errno) {
	if e := checkWith(l, n, x); e != api.OK {
		return 0, e
	}
	return apply(l, x), api.OK
}

// apply returns the number whose bit i is 1 if x and row i have an odd number in common.
func apply(l []int, x int) int {
	result := 0
	for i, row := range l {
		if odd(row & x) {
			result = sum(result, 1<<i)
		}
	}
	return result
}

// Transpose returns a matrix with rows for columns.
func Transpose(l []int, n int) ([]int, api.Errno) {
	if e := Check(l, n); e != api.OK {
		return nil, e
	}
	if len(l) == 0 || len(l) > MaxCols {
		return nil, api.ErrClash
	}
	columns, e := Identity(n)
	for k, column := range columns {
		columns[k] = apply(l, column)
	}
	return columns, e
}

// Invert returns the inverse. Only the identity is reduced and has n rows: what its rows are made of is the inverse.
func Invert(l []int, n int) ([]int, api.Errno) {
	if e := Check(l, n); e != api.OK {
		return nil, e
	}
	if len(l) != n {
		return nil, api.ErrClash
	}
	var inverse []int
	s := systemOf(l, n)
	s.each(table{lead: func(k int) { inverse = append(inverse, s.byLead[k].of) }, free: skip})
	if len(inverse) != n {
		return nil, api.ErrNone
	}
	return inverse, api.OK
}

// Identity returns the identity.
func Identity(n int) ([]int, api.Errno) {
	if e := Check(nil, n); e != api.OK {
		return nil, e
	}
	l := make([]int, n)
	for i := range l {
		l[i] = 1 << i
	}
	return l, api.OK
}

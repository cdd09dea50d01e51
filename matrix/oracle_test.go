package matrix

import (
	"fmt"
	"math/rand"
	"slices"
	"testing"

	"spoondrift/api"
	"spoondrift/ring"
)

// The greatest integer, and the smallest one.
const (
	greatest = 1<<63 - 1
	smallest = -1 << 63
)

// num is a number, whole an integer.
func num(a, b, c, d, k int) api.Num { return api.Num{A: a, B: b, C: c, D: d, K: k} }
func whole(a int) api.Num           { return num(a, 0, 0, 0, 0) }

// wholes is a row of integers, table a matrix of rows.
func wholes(l ...int) []api.Num {
	var row []api.Num
	for _, a := range l {
		row = append(row, whole(a))
	}
	return row
}
func table(l ...[]api.Num) [][]api.Num { return l }

// zeros is a matrix of zeros.
func zeros(high, wide int) [][]api.Num {
	m := make([][]api.Num, high)
	for i := range m {
		m[i] = make([]api.Num, wide)
	}
	return m
}

// prime is 1 modulo 8, so that there is an eighth root of 1 modulo it: numbers become residues, and sums and products of
// numbers those of residues. The oracle calculates with these.
const prime = 998244353

// powerOf is base^n modulo prime.
func powerOf(base, n int) int {
	result := 1
	for ; n > 0; n /= 2 {
		if n%2 == 1 {
			result = result * base % prime
		}
		base = base * base % prime
	}
	return result
}

// residue is what a number becomes modulo prime.
func residue(x api.Num) int {
	w := powerOf(3, (prime-1)/8)
	root := (w - powerOf(w, 3) + prime) % prime
	total := 0
	for i, c := range []int{x.A, x.B, x.C, x.D} {
		total += (c%prime + prime) % prime * powerOf(w, i) % prime
	}
	return total % prime * powerOf(powerOf(root, prime-2), x.K) % prime
}

// conjugateResidue is the residue of the conjugate: w^7 is in place of w, -w^3 of w^3's, and r stays.
func conjugateResidue(x api.Num) int { return residue(num(x.A, -x.D, -x.C, -x.B, x.K)) }

// residues are those of all numbers.
func residues(m [][]api.Num) [][]int {
	l := make([][]int, len(m))
	for i, row := range m {
		for _, x := range row {
			l[i] = append(l[i], residue(x))
		}
	}
	return l
}

// grown is a matrix of residues by what each place has.
func grown(high, wide int, at func(row, column int) int) [][]int {
	l := make([][]int, high)
	for i := range l {
		for j := range wide {
			l[i] = append(l[i], (at(i, j)%prime+prime)%prime)
		}
	}
	return l
}

// productOf is the product of two matrices of residues.
func productOf(a, b [][]int) [][]int {
	return grown(len(a), len(b[0]), func(row, column int) int {
		total := 0
		for k, x := range a[row] {
			total += x * b[k][column] % prime
		}
		return total
	})
}

// isLeast reports whether a number is right and in least form, by the words of chapter 1.
func isLeast(x api.Num) bool {
	return ring.Check(x) == api.OK && (x.K == 0 || (x.A-x.C)%2 != 0 || (x.B-x.D)%2 != 0)
}

// wantResidues fails the test if a result has an error, other residues, or a number that is not in least form.
func wantResidues(t *testing.T, what any, got [][]api.Num, e api.Errno, wanted [][]int) {
	t.Helper()
	if e != api.OK || !slices.EqualFunc(residues(got), wanted, slices.Equal) {
		t.Errorf("%v: %v, error %d", what, got, e)
	}
	for _, row := range got {
		for _, x := range row {
			if !isLeast(x) {
				t.Error(what, x, "is not in least form")
			}
		}
	}
}

// wantMatrix fails the test if a result is not the one that is wanted.
func wantMatrix(t *testing.T, what any, got [][]api.Num, e api.Errno, wanted [][]api.Num, f api.Errno) {
	t.Helper()
	if !slices.EqualFunc(got, wanted, slices.Equal) || e != f {
		t.Errorf("%v: %v, error %d; want %v, error %d", what, got, e, wanted, f)
	}
}

// want fails the test if a result is not the one that is wanted.
func want[T comparable](t *testing.T, what any, got T, e api.Errno, wanted T, f api.Errno) {
	t.Helper()
	if got != wanted || e != f {
		t.Errorf("%v: %v, error %d; want %v, error %d", what, got, e, wanted, f)
	}
}

// must returns a result that has no error.
func must[T any](result T, e api.Errno) T {
	if e != api.OK {
		panic(e)
	}
	return result
}

// source makes numbers and matrices, always the same ones.
type source struct{ *rand.Rand }

// from is a source.
func from(seed int64) source { return source{rand.New(rand.NewSource(seed))} }

// number is a number with coefficients up to most; some are 0, and some not in least form.
func (s source) number(most int) api.Num {
	part := func() int { return s.Intn(2*most+1) - most }
	switch s.Intn(6) {
	case 0:
		return num(0, 0, 0, 0, s.Intn(3))
	case 1:
		return num(2*part(), 2*part(), 2*part(), 2*part(), s.Intn(5))
	case 2:
		return whole(part())
	}
	return num(part(), part(), part(), part(), s.Intn(4))
}

// matrix is a matrix of numbers.
func (s source) matrix(high, wide, most int) [][]api.Num {
	m := zeros(high, wide)
	for i := range m {
		for j := range m[i] {
			m[i][j] = s.number(most)
		}
	}
	return m
}

// vector is a list of numbers.
func (s source) vector(n, most int) []api.Num { return s.matrix(1, n, most)[0] }

// unitary is a product of operators of gates on n wires.
func (s source) unitary(n int) [][]api.Num {
	u := must(Identity(n))
	for range 8 {
		kind := 1 + s.Intn(api.CCX)
		if many := wiresOf(kind); many <= n {
			g := must(On(must(Of(kind)), s.Perm(n)[:many], n))
			u = must(Mul(g, u))
		}
	}
	return u
}

// wiresOf tells how many wires a kind of gate has.
func wiresOf(kind int) int {
	switch kind {
	case api.CX, api.CZ, api.Swap:
		return 2
	case api.CCX:
		return 3
	}
	return 1
}

// wrongMatrices are matrices that are not right, with their errors.
func wrongMatrices() []struct {
	m [][]api.Num
	e api.Errno
} {
	high, large := num(0, 0, 0, 0, api.MaxRoot+1), whole(api.MaxCoef+1)
	return []struct {
		m [][]api.Num
		e api.Errno
	}{
		{nil, api.ErrMany},
		{table(), api.ErrMany},
		{table(nil), api.ErrMany},
		{table(wholes(1), nil), api.ErrMany},
		{table(nil, wholes(1)), api.ErrMany},
		{table(wholes(1, 0), wholes(0)), api.ErrMany},
		{table(wholes(1), wholes(0, 1)), api.ErrMany},
		{zeros(MaxSide+1, 1), api.ErrMany},
		{zeros(1, MaxSide+1), api.ErrMany},
		{zeros(MaxSide+1, MaxSide+1), api.ErrMany},
		{zeros(1000, 0), api.ErrMany},
		{append(zeros(MaxSide-1, 2), wholes(1)), api.ErrMany},
		{table([]api.Num{high, large}, wholes(1)), api.ErrMany},
		{table([]api.Num{large}, nil), api.ErrMany},
		{table([]api.Num{high}), api.ErrRange},
		{table([]api.Num{large}), api.ErrLarge},
		{table([]api.Num{num(0, 0, 0, -api.MaxCoef-1, 3)}), api.ErrLarge},
		{table([]api.Num{num(smallest, greatest, 0, 0, -1)}), api.ErrRange},
		{table([]api.Num{num(smallest, greatest, 0, 0, 0)}), api.ErrLarge},
		{table([]api.Num{num(0, 0, 0, 0, smallest)}), api.ErrRange},
		{table([]api.Num{num(0, 0, 0, 0, greatest)}), api.ErrRange},
		{table([]api.Num{whole(1), large}, []api.Num{high, whole(0)}), api.ErrLarge},
		{table([]api.Num{whole(1), high}, []api.Num{large, whole(0)}), api.ErrRange},
		{table([]api.Num{whole(1), whole(0)}, []api.Num{large, high}), api.ErrLarge},
		{table([]api.Num{whole(1), whole(0)}, []api.Num{high, large}), api.ErrRange},
		{append(zeros(MaxSide-1, 1), []api.Num{large}), api.ErrLarge},
	}
}

// call is a function of a matrix, with what else it takes already chosen.
type call struct {
	name string
	do   func(m [][]api.Num) (any, api.Errno)
}

// calls are all functions of matrices, for a matrix at each of their places; what else they take is n, v and x, and
// where a matrix comes before the one that is given, it is a right one.
func calls(n [][]api.Num, v []api.Num, x api.Num, wires []int, of int) []call {
	one := table(wholes(1))
	return []call{
		{"Least", func(m [][]api.Num) (any, api.Errno) { r, e := Least(m); return r, e }},
		{"Same, first", func(m [][]api.Num) (any, api.Errno) { r, e := Same(m, n); return r, e }},
		{"Same, second", func(m [][]api.Num) (any, api.Errno) { r, e := Same(one, m); return r, e }},
		{"Phase, first", func(m [][]api.Num) (any, api.Errno) { r, e := Phase(m, n); return r, e }},
		{"Phase, second", func(m [][]api.Num) (any, api.Errno) { r, e := Phase(one, m); return r, e }},
		{"On", func(m [][]api.Num) (any, api.Errno) { r, e := On(m, wires, of); return r, e }},
		{"Add, first", func(m [][]api.Num) (any, api.Errno) { r, e := Add(m, n); return r, e }},
		{"Add, second", func(m [][]api.Num) (any, api.Errno) { r, e := Add(one, m); return r, e }},
		{"Mul, first", func(m [][]api.Num) (any, api.Errno) { r, e := Mul(m, n); return r, e }},
		{"Mul, second", func(m [][]api.Num) (any, api.Errno) { r, e := Mul(one, m); return r, e }},
		{"Kron, first", func(m [][]api.Num) (any, api.Errno) { r, e := Kron(m, n); return r, e }},
		{"Kron, second", func(m [][]api.Num) (any, api.Errno) { r, e := Kron(one, m); return r, e }},
		{"Scale", func(m [][]api.Num) (any, api.Errno) { r, e := Scale(m, x); return r, e }},
		{"Dagger", func(m [][]api.Num) (any, api.Errno) { r, e := Dagger(m); return r, e }},
		{"Trace", func(m [][]api.Num) (any, api.Errno) { r, e := Trace(m); return r, e }},
		{"Unitary", func(m [][]api.Num) (any, api.Errno) { r, e := Unitary(m); return r, e }},
		{"Apply", func(m [][]api.Num) (any, api.Errno) { r, e := Apply(m, v); return r, e }},
	}
}

// isZero reports whether a result is 0, false, the number 0, or an empty list.
func isZero(x any) bool {
	return slices.Contains([]string{"0", "false", "[]", "{0 0 0 0 0}"}, fmt.Sprint(x))
}

// copyOf is a matrix that shares no memory with m.
func copyOf(m [][]api.Num) [][]api.Num {
	c := slices.Clone(m)
	for i := range c {
		c[i] = slices.Clone(c[i])
	}
	return c
}

package matrix

import (
	"fmt"
	"slices"
	"testing"

	"spoondrift/api"
	"spoondrift/ring"
)

// two is a function of two matrices.
type two = func(m, n [][]api.Num) ([][]api.Num, api.Errno)

// P3.3: sums, products, products of blocks and conjugates, against residues, for all small sizes.
func TestCalculatingOfAllSizes(t *testing.T) {
	s := from(6)
	for high := 1; high <= 5; high++ {
		for wide := 1; wide <= 5; wide++ {
			m, n := s.matrix(high, wide, 40), s.matrix(high, wide, 40)
			a, b := residues(m), residues(n)
			got, e := Add(m, n)
			wantResidues(t, "Add", got, e, grown(high, wide, func(i, j int) int { return a[i][j] + b[i][j] }))
			x := s.number(40)
			got, e = Scale(m, x)
			wantResidues(t, "Scale", got, e, grown(high, wide, func(i, j int) int { return a[i][j] * residue(x) }))
			got, e = Dagger(m)
			wantResidues(t, "Dagger", got, e, grown(wide, high, func(i, j int) int { return conjugateResidue(m[j][i]) }))
			for other := 1; other <= 5; other++ {
				n := s.matrix(wide, other, 40)
				b := residues(n)
				got, e := Mul(m, n)
				wantResidues(t, "Mul", got, e, productOf(a, b))
				got, e = Kron(m, n)
				wantResidues(t, "Kron", got, e, grown(high*wide, wide*other, func(i, j int) int {
					return a[i/wide][j/other] * b[i%wide][j%other]
				}))
			}
		}
	}
}

// P3.3: Trace, Apply and Inner, against residues, for all small sizes.
func TestTracesAndVectors(t *testing.T) {
	s := from(7)
	for high := 1; high <= 7; high++ {
		for wide := 1; wide <= 7; wide++ {
			m, v, u := s.matrix(high, wide, 40), s.vector(wide, 40), s.vector(wide, 40)
			trace, inner := 0, 0
			applied := make([]int, high)
			for j := range wide {
				if j < high {
					trace += residue(m[j][j])
				}
				inner += conjugateResidue(v[j]) * residue(u[j]) % prime
				for i := range high {
					applied[i] += residue(m[i][j]) * residue(v[j]) % prime
				}
			}
			if x, e := Trace(m); high == wide {
				wantResidues(t, "Trace", table([]api.Num{x}), e, [][]int{{trace % prime}})
			} else {
				want(t, "Trace", x, e, api.Num{}, api.ErrClash)
			}
			x, e := Inner(v, u)
			wantResidues(t, "Inner", table([]api.Num{x}), e, [][]int{{inner % prime}})
			got, e := Apply(m, v)
			wantResidues(t, "Apply", table(got), e, grown(1, high, func(_, j int) int { return applied[j] }))
		}
	}
}

// inOrder is a sum of products as the chapter computes it: no product and no sum is left out.
func inOrder(l, other []api.Num) (api.Num, api.Errno) {
	sum, e := ring.Mul(l[0], other[0])
	for k := 1; k < len(l) && e == api.OK; k++ {
		var product api.Num
		if product, e = ring.Mul(l[k], other[k]); e == api.OK {
			sum, e = ring.Add(sum, product)
		}
	}
	if e != api.OK {
		return api.Num{}, e
	}
	return sum, api.OK
}

// column is a column of a matrix.
func column(m [][]api.Num, j int) []api.Num {
	var l []api.Num
	for _, row := range m {
		l = append(l, row[j])
	}
	return l
}

// P3.3: products are too large just if one of the products or sums is, from the left to the right.
func TestTooLarge(t *testing.T) {
	s := from(8)
	large := 0
	for i := range 3000 {
		high, wide, other := 1+i%2, 1+i%5, 1+i/2%2
		m, n := s.matrix(high, wide, 1<<15), s.matrix(wide, other, 1<<13)
		wanted, f := zeros(high, other), api.OK
		for a := range high {
			for b := range other {
				x, e := inOrder(m[a], column(n, b))
				wanted[a][b] = x
				if e != api.OK {
					f = e
				}
			}
		}
		if f != api.OK {
			large++
			wanted = nil
		}
		got, e := Mul(m, n)
		wantMatrix(t, "Mul", got, e, wanted, f)
		x, e := inOrder(m[0], column(n, 0))
		l, f := Apply(table(m[0]), column(n, 0))
		wantMatrix(t, "Apply", table(l), f, table(slices.Repeat([]api.Num{x}, len(l))), e)
		y, f := Inner(must(Dagger(table(m[0])))[0][:1], column(n, 0)[:1])
		x, e = ring.Mul(m[0][0], n[0][0])
		want(t, "Inner", y, f, x, e)
	}
	if large < 200 || large > 2800 {
		t.Error("too large:", large)
	}
}

// P3.3: what is too large, in which order, and at which place.
func TestTooLargeEdges(t *testing.T) {
	const most = api.MaxCoef
	big := table(wholes(most))
	ones := table(wholes(1), wholes(1), wholes(1))
	for i, x := range []struct {
		do   two
		m, n [][]api.Num
		want [][]api.Num
		e    api.Errno
	}{
		{Add, big, table(wholes(0)), big, api.OK},
		{Add, big, table(wholes(-1)), table(wholes(most - 1)), api.OK},
		{Add, big, table(wholes(1)), nil, api.ErrLarge},
		{Add, table(wholes(0, most)), table(wholes(0, most)), nil, api.ErrLarge},
		{Add, table(wholes(0), wholes(-most)), table(wholes(0), wholes(-1)), nil, api.ErrLarge},
		{Add, table([]api.Num{num(most, 0, 0, 0, 2)}), table([]api.Num{num(most, 0, 0, 0, 2)}), table(wholes(most)), api.OK},
		{Mul, big, table(wholes(2)), nil, api.ErrLarge},
		{Mul, big, table(wholes(0)), table(wholes(0)), api.OK},
		{Mul, big, table([]api.Num{num(0, 0, -1, 0, 0)}), table([]api.Num{num(0, 0, -most, 0, 0)}), api.OK},
		{Mul, table(wholes(most, 1, -1)), ones, nil, api.ErrLarge},
		{Mul, table(wholes(most, -1, 1)), ones, big, api.OK},
		{Mul, table(wholes(1, -1, most)), ones, big, api.OK},
		{Mul, table(wholes(0, 0, most)), ones, big, api.OK},
		{Mul, table(wholes(most, 0, most)), ones, nil, api.ErrLarge},
		{Mul, table(wholes(most, 0, most)), table(wholes(2), wholes(0), wholes(-2)), nil, api.ErrLarge},
		{Mul, table(wholes(1), wholes(most)), table(wholes(1, 2)), nil, api.ErrLarge},
		{Mul, table([]api.Num{num(1, 0, 0, 0, 60)}), table([]api.Num{num(1, 0, 0, 0, 1)}), nil, api.ErrLarge},
		{Mul, table([]api.Num{num(1, 0, 0, 0, 59)}), table([]api.Num{num(1, 0, 0, 0, 1)}), table([]api.Num{num(1, 0, 0, 0, 60)}), api.OK},
		{Kron, big, table(wholes(2)), nil, api.ErrLarge},
		{Kron, table(wholes(0, most)), table(wholes(1), wholes(-1)), table(wholes(0, most), wholes(0, -most)), api.OK},
		{Kron, table(wholes(0, most)), table(wholes(1), wholes(2)), nil, api.ErrLarge},
		{Kron, big, zeros(2, 2), zeros(2, 2), api.OK},
	} {
		got, e := x.do(x.m, x.n)
		wantMatrix(t, i, got, e, x.want, x.e)
	}
	got, e := Scale(table(wholes(1, 2)), whole(most))
	wantMatrix(t, "Scale", got, e, nil, api.ErrLarge)
	got, e = Scale(table(wholes(1, -1)), whole(most))
	wantMatrix(t, "Scale", got, e, table(wholes(most, -most)), api.OK)
	x, e := Trace(table(wholes(most, 0, 0), wholes(0, 1, 0), wholes(0, 0, -1)))
	want(t, "Trace", x, e, api.Num{}, api.ErrLarge)
	x, e = Trace(table(wholes(most, most, most), wholes(0, -1, 0), wholes(0, 0, 1)))
	want(t, "Trace", x, e, whole(most), api.OK)
	x, e = Inner(wholes(most, 1), wholes(1, 1))
	want(t, "Inner", x, e, api.Num{}, api.ErrLarge)
	x, e = Inner(wholes(most, 0), wholes(1, most))
	want(t, "Inner", x, e, whole(most), api.OK)
	l, e := Apply(table(wholes(1), wholes(2)), wholes(most))
	wantMatrix(t, "Apply", table(l), e, table(nil), api.ErrLarge)
}

// P3.3: sizes that do not allow it come before what is too large.
func TestClashes(t *testing.T) {
	const most = api.MaxCoef
	large := func(high, wide int) [][]api.Num {
		m := zeros(high, wide)
		for i := range m {
			for j := range m[i] {
				m[i][j] = whole(most)
			}
		}
		return m
	}
	for high := 1; high <= 3; high++ {
		for wide := 1; wide <= 3; wide++ {
			for other := 1; other <= 3; other++ {
				for last := 1; last <= 3; last++ {
					m, n := large(high, wide), large(other, last)
					if got, e := Add(m, n); high == other && wide == last {
						wantMatrix(t, "Add", got, e, nil, api.ErrLarge)
					} else {
						wantMatrix(t, "Add", got, e, nil, api.ErrClash)
					}
					if got, e := Mul(m, n); wide == other {
						wantMatrix(t, "Mul", got, e, nil, api.ErrLarge)
					} else {
						wantMatrix(t, "Mul", got, e, nil, api.ErrClash)
					}
				}
				if l, e := Apply(large(high, wide), large(1, other)[0]); wide == other {
					wantMatrix(t, "Apply", table(l), e, table(nil), api.ErrLarge)
				} else {
					wantMatrix(t, "Apply", table(l), e, table(nil), api.ErrClash)
				}
			}
			if x, e := Inner(large(1, high)[0], large(1, wide)[0]); high == wide {
				want(t, "Inner", x, e, api.Num{}, api.ErrLarge)
			} else {
				want(t, "Inner", x, e, api.Num{}, api.ErrClash)
			}
			if x, e := Trace(large(high, wide)); high != wide {
				want(t, "Trace", x, e, api.Num{}, api.ErrClash)
			} else if high > 1 {
				want(t, "Trace", x, e, api.Num{}, api.ErrLarge)
			} else {
				want(t, "Trace", x, e, whole(most), api.OK)
			}
		}
	}
}

// P3.3: a side of a product of blocks is at most MaxSide, which comes before what is too large.
func TestSidesOfKron(t *testing.T) {
	big := table(wholes(api.MaxCoef))
	for _, x := range []struct {
		high, wide, other, last int
		e                       api.Errno
	}{
		{8, 1, 8, 1, api.OK}, {1, 8, 1, 8, api.OK}, {64, 64, 1, 1, api.OK}, {1, 1, 64, 64, api.OK}, {8, 8, 8, 8, api.OK}, {64, 1, 1, 64, api.OK}, {2, 32, 32, 2, api.OK}, {7, 9, 9, 7, api.OK},
		{5, 1, 13, 1, api.ErrMany}, {1, 5, 1, 13, api.ErrMany}, {64, 1, 2, 1, api.ErrMany}, {1, 33, 1, 2, api.ErrMany}, {64, 64, 64, 64, api.ErrMany}, {8, 9, 8, 8, api.ErrMany}, {9, 8, 8, 8, api.ErrMany},
	} {
		got, e := Kron(zeros(x.high, x.wide), zeros(x.other, x.last))
		if x.e == api.OK {
			wantMatrix(t, x, got, e, zeros(x.high*x.other, x.wide*x.last), api.OK)
			continue
		}
		wantMatrix(t, x, got, e, nil, x.e)
		m, n := zeros(x.high, x.wide), zeros(x.other, x.last)
		m[0][0], n[0][0] = big[0][0], big[0][0]
		got, e = Kron(m, n)
		wantMatrix(t, x, got, e, nil, x.e)
	}
}

// P3.3: Unitary, of those that are, of those that are almost, and of those that are not square.
func TestUnitary(t *testing.T) {
	const most = api.MaxCoef
	root, w := num(1, 0, 0, 0, 1), ring.Omega(1)
	for i, x := range []struct {
		m      [][]api.Num
		wanted bool
		e      api.Errno
	}{
		{table(wholes(1)), true, api.OK},
		{table(wholes(-1)), true, api.OK},
		{table([]api.Num{w}), true, api.OK},
		{table([]api.Num{num(2, 0, 0, 0, 2)}), true, api.OK},
		{table([]api.Num{num(1, 1, 0, 0, 0)}), false, api.OK},
		{table(wholes(0)), false, api.OK},
		{table(wholes(2)), false, api.OK},
		{table(wholes(1, 0)), false, api.OK},
		{table(wholes(1), wholes(0)), false, api.OK},
		{table(wholes(most, most)), false, api.OK},
		{table(wholes(most), wholes(most)), false, api.OK},
		{table(wholes(1, 0, 0), wholes(0, 1, 0)), false, api.OK},
		{table(wholes(1, 1), wholes(0, 1)), false, api.OK},
		{table(wholes(1, 0), wholes(1, 0)), false, api.OK},
		{table(wholes(1, 0), wholes(0, 0)), false, api.OK},
		{table([]api.Num{root, root}, []api.Num{root, root}), false, api.OK},
		{table([]api.Num{root, root}, []api.Num{root, num(-1, 0, 0, 0, 1)}), true, api.OK},
		{table([]api.Num{root, root}, []api.Num{num(0, 1, 0, 0, 1), num(0, -1, 0, 0, 1)}), true, api.OK},
		{table(wholes(0, 1, 0), wholes(0, 0, -1), []api.Num{w, whole(0), whole(0)}), true, api.OK},
		{table(wholes(most, 0), wholes(0, 1)), false, api.ErrLarge},
		{table(wholes(2, 0), wholes(0, most)), false, api.ErrLarge},
		{table([]api.Num{num(1, 0, 0, 0, 60)}), false, api.ErrLarge},
		{zeros(MaxSide, MaxSide), false, api.OK},
		{must(Identity(6)), true, api.OK},
	} {
		got, e := Unitary(x.m)
		want(t, i, got, e, x.wanted, x.e)
	}
	s := from(9)
	for n := 1; n <= 4; n++ {
		u := s.unitary(n)
		got, e := Unitary(u)
		want(t, u, got, e, true, api.OK)
		for i := range u {
			wrong := copyOf(u)
			wrong[i][i] = must(ring.Add(wrong[i][i], whole(3)))
			got, e = Unitary(wrong)
			want(t, fmt.Sprint(i, wrong), got, e, false, api.OK)
		}
	}
}

// The errors of vectors come behind those of matrices: the first vector before the second one, how long it is before
// what its numbers are.
func TestErrorsOfVectors(t *testing.T) {
	high, large := num(0, 0, 0, 0, 61), whole(api.MaxCoef+1)
	right := wholes(1, 2)
	wrong := []struct {
		v []api.Num
		e api.Errno
	}{
		{nil, api.ErrMany},
		{[]api.Num{}, api.ErrMany},
		{make([]api.Num, MaxSide+1), api.ErrMany},
		{slices.Repeat([]api.Num{high}, MaxSide+1), api.ErrMany},
		{[]api.Num{whole(1), high, large}, api.ErrRange},
		{[]api.Num{large, high}, api.ErrLarge},
		{[]api.Num{num(0, 0, 0, smallest, 0)}, api.ErrLarge},
		{[]api.Num{num(0, 0, 0, smallest, -1)}, api.ErrRange},
		{append(make([]api.Num, MaxSide-1), large), api.ErrLarge},
	}
	for i, x := range wrong {
		for _, m := range [][][]api.Num{table(right), zeros(3, 1), zeros(64, 64)} {
			l, e := Apply(m, x.v)
			wantMatrix(t, i, table(l), e, table(nil), x.e)
		}
		y, e := Inner(right, x.v)
		want(t, i, y, e, api.Num{}, x.e)
		y, e = Inner(x.v, right)
		want(t, i, y, e, api.Num{}, x.e)
		for j, z := range wrong {
			y, e := Inner(x.v, z.v)
			want(t, fmt.Sprint(i, j), y, e, api.Num{}, x.e)
		}
		for _, z := range wrongMatrices() {
			l, e := Apply(z.m, x.v)
			wantMatrix(t, i, table(l), e, table(nil), z.e)
		}
	}
	for n := 1; n <= MaxSide; n += 9 {
		y, e := Inner(make([]api.Num, n), make([]api.Num, n))
		want(t, n, y, e, api.Num{}, api.OK)
		l, e := Apply(zeros(3, n), make([]api.Num, n))
		wantMatrix(t, n, table(l), e, zeros(1, 3), api.OK)
	}
}

// The error of the number with which a matrix is scaled comes behind those of the matrix, and before what is too large.
func TestErrorsOfScale(t *testing.T) {
	big := table(wholes(api.MaxCoef, 2))
	for x, wanted := range map[api.Num]api.Errno{
		num(0, 0, 0, 0, -1):                      api.ErrRange,
		num(0, 0, 0, 0, api.MaxRoot+1):           api.ErrRange,
		num(greatest, 0, 0, 0, smallest):         api.ErrRange,
		num(0, api.MaxCoef+1, 0, 0, 0):           api.ErrLarge,
		num(0, 0, smallest, greatest, 0):         api.ErrLarge,
		num(2, 0, 0, 0, 0):                       api.ErrLarge,
		num(0, 0, 0, 0, 7):                       api.OK,
		num(1, 0, 0, 0, 0):                       api.OK,
		num(0, 0, 2, 0, 2):                       api.OK,
		num(-api.MaxCoef, 0, 0, 0, api.MaxRoot):  api.OK,
		num(api.MaxCoef, 1, 0, 0, api.MaxRoot):   api.OK,
		num(api.MaxCoef, 0, 0, 0, api.MaxRoot-2): api.ErrLarge,
	} {
		got, e := Scale(big, x)
		if e != wanted || (e == api.OK) != (len(got) == 1) {
			t.Error(x, got, e, wanted)
		}
	}
}

// P3.3: matrices of the greatest size.
func TestGreatest(t *testing.T) {
	s := from(10)
	m, n := s.matrix(MaxSide, MaxSide, 5), s.matrix(MaxSide, MaxSide, 5)
	a, b := residues(m), residues(n)
	got, e := Mul(m, n)
	wantResidues(t, "Mul", got, e, productOf(a, b))
	got, e = Add(m, n)
	wantResidues(t, "Add", got, e, grown(MaxSide, MaxSide, func(i, j int) int { return a[i][j] + b[i][j] }))
	got, e = Dagger(m)
	wantResidues(t, "Dagger", got, e, grown(MaxSide, MaxSide, func(i, j int) int { return conjugateResidue(m[j][i]) }))
}

// The examples 3, 4 and 5 of the chapter.
func TestExamplesOfCalculating(t *testing.T) {
	got, e := Kron(table(wholes(1, 2)), table(wholes(3), wholes(4)))
	wantMatrix(t, "Kron", got, e, table(wholes(3, 6), wholes(4, 8)), api.OK)
	x, e := Inner([]api.Num{whole(1), num(0, 0, 1, 0, 0)}, wholes(1, 1))
	want(t, "Inner", x, e, num(1, 0, -1, 0, 0), api.OK)
	if e := Check(table(wholes(1, 0), wholes(0))); e != api.ErrMany {
		t.Error(e)
	}
}

package matrix

import (
	"slices"
	"testing"

	"spoondrift/api"
	"spoondrift/ring"
)

// P3.1: right matrices, with the limits and one beyond them, and which error comes first.
func TestCheck(t *testing.T) {
	most := num(api.MaxCoef, -api.MaxCoef, api.MaxCoef, -api.MaxCoef, api.MaxRoot)
	for _, m := range [][][]api.Num{table(wholes(0)), table(wholes(1, 2, 3)), table(wholes(1), wholes(2)), zeros(MaxSide, MaxSide), zeros(1, MaxSide), zeros(MaxSide, 1), table([]api.Num{most})} {
		if e := Check(m); e != api.OK {
			t.Error(m, e)
		}
	}
	for i, x := range wrongMatrices() {
		if e := Check(x.m); e != x.e {
			t.Error(i, e, x.e)
		}
	}
}

// The errors of Check come first, whatever else is wrong, and with an error all other results are zero.
func TestErrorsOfCheckFirst(t *testing.T) {
	type rest struct {
		n     [][]api.Num
		v     []api.Num
		x     api.Num
		wires []int
		of    int
	}
	for _, other := range []rest{
		{table(wholes(1)), wholes(1), whole(1), nil, 0},
		{nil, nil, num(0, 0, 0, 0, -1), []int{0, 0}, 9},
		{zeros(2, 3), wholes(api.MaxCoef + 1), whole(api.MaxCoef + 1), []int{-1}, -1},
		{table([]api.Num{num(0, 0, 0, 0, 61)}), make([]api.Num, 65), whole(smallest), []int{greatest, smallest}, smallest},
	} {
		for i, x := range wrongMatrices() {
			for _, c := range calls(other.n, other.v, other.x, other.wires, other.of) {
				if got, e := c.do(x.m); !isZero(got) || e != x.e {
					t.Error(c.name, i, got, e, x.e)
				}
			}
		}
	}
}

// P3.1: of two matrices that are not right, the first one has the error.
func TestFirstMatrixFirst(t *testing.T) {
	type two = func(m, n [][]api.Num) (any, api.Errno)
	for name, do := range map[string]two{
		"Same":  func(m, n [][]api.Num) (any, api.Errno) { r, e := Same(m, n); return r, e },
		"Phase": func(m, n [][]api.Num) (any, api.Errno) { r, e := Phase(m, n); return r, e },
		"Add":   func(m, n [][]api.Num) (any, api.Errno) { r, e := Add(m, n); return r, e },
		"Mul":   func(m, n [][]api.Num) (any, api.Errno) { r, e := Mul(m, n); return r, e },
		"Kron":  func(m, n [][]api.Num) (any, api.Errno) { r, e := Kron(m, n); return r, e },
	} {
		for i, x := range wrongMatrices() {
			for j, y := range wrongMatrices() {
				if got, e := do(x.m, y.m); !isZero(got) || e != x.e {
					t.Error(name, i, j, got, e, x.e)
				}
			}
			if got, e := do(zeros(2, 5), x.m); !isZero(got) || e != x.e {
				t.Error(name, i, got, e, x.e)
			}
		}
	}
}

// P3.1: all numbers in least form, at their places.
func TestLeast(t *testing.T) {
	m := table([]api.Num{num(2, 0, 0, 0, 2), num(1, 0, 1, 0, 1)}, []api.Num{num(0, 0, 0, 0, 60), num(1, 0, 0, 0, 1)})
	got, e := Least(m)
	wantMatrix(t, m, got, e, table([]api.Num{whole(1), num(0, 1, 0, 0, 0)}, []api.Num{whole(0), num(1, 0, 0, 0, 1)}), api.OK)
	s := from(1)
	for high := 1; high <= 9; high++ {
		for wide := 1; wide <= 9; wide++ {
			m := s.matrix(high, wide, 1000)
			got, e := Least(m)
			wantResidues(t, m, got, e, residues(m))
		}
	}
	m = s.matrix(MaxSide, MaxSide, api.MaxCoef/2)
	got, e = Least(m)
	wantResidues(t, "64 rows", got, e, residues(m))
}

// raised is the matrix with other forms of the same numbers, where those are right.
func raised(m [][]api.Num) [][]api.Num {
	m = copyOf(m)
	for i, row := range m {
		for j, x := range row {
			if y := num(x.B-x.D, x.A+x.C, x.B+x.D, x.C-x.A, x.K+1); (i+j)%2 == 0 && ring.Check(y) == api.OK {
				m[i][j] = y
			}
		}
	}
	return m
}

// P3.1: Same compares sizes and values, at all places.
func TestSame(t *testing.T) {
	s := from(2)
	for high := 1; high <= 5; high++ {
		for wide := 1; wide <= 5; wide++ {
			m := s.matrix(high, wide, 50)
			is, e := Same(m, raised(m))
			want(t, m, is, e, true, api.OK)
			is, e = Same(raised(m), m)
			want(t, m, is, e, true, api.OK)
			for i := range m {
				for j := range m[i] {
					n := raised(m)
					n[i][j] = must(ring.Add(n[i][j], num(0, 0, 0, 1, 0)))
					is, e := Same(m, n)
					want(t, n, is, e, false, api.OK)
				}
			}
			is, e = Same(m, append(copyOf(m), make([]api.Num, wide)))
			want(t, m, is, e, false, api.OK)
			is, e = Same(zeros(high, wide), zeros(wide, high))
			want(t, m, is, e, high == wide, api.OK)
			is, e = Same(zeros(high, wide+1), zeros(high, wide))
			want(t, m, is, e, false, api.OK)
		}
	}
}

// P3.1: Phase finds each power of w.
func TestPhase(t *testing.T) {
	s := from(3)
	for high := 1; high <= 4; high++ {
		for wide := 1; wide <= 4; wide++ {
			n := s.matrix(high, wide, 50)
			n[high-1][wide-1] = num(3, 1, 0, 0, 1) // so that there is only one power
			for k := range 8 {
				m := must(Scale(n, ring.Omega(k)))
				got, e := Phase(raised(m), n)
				want(t, n, got, e, k, api.OK)
				got, e = Phase(m, raised(n))
				want(t, n, got, e, k, api.OK)
				if high*wide > 1 {
					m[0][0] = num(9, 9, 9, 8, 0)
					got, e = Phase(m, n)
					want(t, m, got, e, 0, api.ErrNone)
				}
			}
		}
	}
}

// P3.1: the edges of Phase: zeros, other sizes, numbers of different powers, and the limits.
func TestPhaseEdges(t *testing.T) {
	w, i := ring.Omega(1), ring.Omega(2)
	most := api.MaxCoef
	for k, x := range []struct {
		m, n   [][]api.Num
		wanted int
		e      api.Errno
	}{
		{zeros(2, 3), zeros(2, 3), 0, api.OK},
		{zeros(64, 64), zeros(64, 64), 0, api.OK},
		{zeros(2, 3), zeros(3, 2), 0, api.ErrClash},
		{zeros(2, 3), zeros(2, 2), 0, api.ErrClash},
		{zeros(1, 1), table(wholes(1)), 0, api.ErrNone},
		{table(wholes(1)), zeros(1, 1), 0, api.ErrNone},
		{table(wholes(0, -1)), table(wholes(0, 1)), 4, api.OK},
		{table(wholes(-1, 0)), table(wholes(0, 1)), 0, api.ErrNone},
		{table([]api.Num{w, w}), table([]api.Num{whole(1), whole(1)}), 1, api.OK},
		{table([]api.Num{w, i}), table([]api.Num{whole(1), whole(1)}), 0, api.ErrNone},
		{table([]api.Num{w}, []api.Num{i}), table([]api.Num{whole(1)}, []api.Num{w}), 1, api.OK},
		{table([]api.Num{whole(1)}), table([]api.Num{w}), 7, api.OK},
		{table(wholes(2)), table(wholes(1)), 0, api.ErrNone},
		{table([]api.Num{num(-most, 1, -most, -most, 60)}), table([]api.Num{num(-most, most, -1, most, 60)}), 3, api.OK},
		{table([]api.Num{num(most, -most, -most, most, 60)}), table([]api.Num{num(-most, most, most, -most, 60)}), 4, api.OK},
	} {
		got, e := Phase(x.m, x.n)
		want(t, k, got, e, x.wanted, x.e)
	}
}

// R4: arguments stay as they are, and results have memory of their own.
func TestMemory(t *testing.T) {
	s := from(4)
	m, n, v, x := s.matrix(4, 4, 9), s.matrix(4, 4, 9), s.vector(4, 9), num(2, 4, 6, 8, 2)
	one := table([]api.Num{num(2, 0, 0, 0, 2)})
	before := [][][]api.Num{copyOf(m), copyOf(n), {slices.Clone(v)}, copyOf(one)}
	wires := []int{1, 0}
	spoil := func(m [][]api.Num, e api.Errno) {
		must(m, e)
		for i, row := range m {
			for j := range row {
				row[j] = whole(100*i + j)
			}
			_ = append(row, whole(-1), whole(-1))
		}
		for i, row := range m {
			for j, x := range row {
				if x != whole(100*i+j) {
					t.Error("rows share memory")
				}
			}
		}
	}
	spoil(Least(m))
	spoil(On(m, wires, 2))
	spoil(On(one, nil, 0))
	spoil(Add(m, n))
	spoil(Mul(m, n))
	spoil(Kron(one, m))
	spoil(Kron(m, one))
	spoil(Scale(m, x))
	spoil(Dagger(m))
	l, e := Apply(m, v)
	spoil(table(l), e)
	for _, do := range calls(n, v, x, wires, 2) {
		do.do(m)
	}
	Inner(v, m[0])
	for i, now := range [][][]api.Num{m, n, {v}, one} {
		wantMatrix(t, i, now, api.OK, before[i], api.OK)
	}
	if !slices.Equal(wires, []int{1, 0}) {
		t.Error(wires)
	}
	for kind := api.X; kind <= api.CCX; kind++ {
		first := must(Of(kind))
		before := copyOf(first)
		spoil(first, api.OK)
		again, e := Of(kind)
		wantMatrix(t, kind, again, e, before, api.OK)
	}
	spoil(Identity(2))
	again, e := Identity(2)
	wantMatrix(t, "Identity", again, e, table(wholes(1, 0, 0, 0), wholes(0, 1, 0, 0), wholes(0, 0, 1, 0), wholes(0, 0, 0, 1)), api.OK)
}

package full

import (
	"fmt"
	"slices"
	"testing"

	"spoondrift/api"
	"spoondrift/circ"
	"spoondrift/matrix"
	"spoondrift/ring"
)

// wantMatrix fails the test if a matrix is not the one that is wanted.
func wantMatrix(t *testing.T, what any, got [][]api.Num, e api.Errno, wanted [][]api.Num, f api.Errno) {
	t.Helper()
	if !slices.EqualFunc(got, wanted, slices.Equal) || e != f {
		t.Errorf("%v: %v, error %d; want %v, error %d", what, got, e, wanted, f)
	}
}

// P6.4: the operators of all gates of up to three wires are those of chapter 3.
func TestMatrixOfGates(t *testing.T) {
	for n := 1; n <= 3; n++ {
		for _, g := range allGates(n) {
			got, e := Matrix(circuit(n, 3, g))
			wanted, f := matrix.On(must(matrix.Of(g.Kind)), g.Wires, n)
			wantMatrix(t, g, got, e, wanted, f)
		}
	}
	for n := 1; n <= api.MaxState; n++ {
		got, e := Matrix(circuit(n, 8))
		wanted, f := matrix.Identity(n)
		wantMatrix(t, n, got, e, wanted, f)
	}
}

// P6.4: column k is the state after all gates, from the basis state k, against residues; and so are all amplitudes.
func TestMatrixOfMany(t *testing.T) {
	s := from(11)
	for i := range 140 {
		n := 1 + i%6
		c := s.plain(n, s.Intn(40))
		m, e := Matrix(c)
		if e != api.OK || len(m) != 1<<n {
			t.Fatal(c, e)
		}
		for in := range m {
			wanted := make([]int, len(m))
			wanted[in] = 1
			for _, g := range c.Gates {
				wanted = movedAll(g, wanted)
			}
			var column []api.Num
			for _, row := range m {
				column = append(column, row[in])
			}
			wantResidues(t, c, column, e, wanted)
			out := s.Intn(len(m))
			got, e := Amplitude(c, in, out)
			want(t, c, got, e, m[out][in], api.OK)
		}
	}
}

// P6.4: circuits of the greatest length.
func TestLongCircuits(t *testing.T) {
	c := circuit(1, 0)
	for range api.MaxGates / 2 {
		c.Gates = append(c.Gates, on(api.H, 0), on(api.T, 0))
	}
	m, e := Matrix(c)
	if e != api.OK {
		t.Fatal(e)
	}
	product := must(matrix.Identity(1))
	for _, g := range c.Gates {
		product = must(matrix.Mul(must(matrix.Of(g.Kind)), product))
	}
	wantMatrix(t, "H and T", m, e, product, api.OK)
	// Longer ones, which no circuit is, become too large.
	for range 2 {
		c.Gates = append(c.Gates, c.Gates...)
	}
	if v, e := runOf(c, 0).column(1); v != nil || e != api.ErrLarge {
		t.Error(v, e)
	}
}

// P6.4: the examples of the chapter, and which index is the row.
func TestSmallOperators(t *testing.T) {
	i := ring.Omega(2)
	got, e := Matrix(circuit(1, 0, on(api.T, 0), on(api.T, 0)))
	wantMatrix(t, "T T", got, e, must(matrix.Of(api.S)), api.OK)
	c := circuit(1, 3, on(api.S, 0), on(api.X, 0))
	got, e = Matrix(c)
	wantMatrix(t, "S X", got, e, [][]api.Num{row(whole(0), i), wholes(1, 0)}, api.OK)
	for in, wanted := range [][]api.Num{wholes(0, 1), row(i, whole(0))} {
		for out, x := range wanted {
			got, e := Amplitude(c, in, out)
			want(t, fmt.Sprint(in, out), got, e, x, api.OK)
		}
	}
}

// P6.4: the errors of Matrix and Amplitude, which are the same up to those of the basis states.
func TestErrorsOfOperators(t *testing.T) {
	type wrong struct {
		c api.Circuit
		e api.Errno
	}
	l := []wrong{
		{circuit(1, 1, look(0, 0)), api.ErrClash},
		{circuit(1, 0, on(api.Reset, 0)), api.ErrClash},
		{circuit(1, 1, when(1, api.X, 0)), api.ErrClash},
		{circuit(2, 1, on(api.H, 0), on(api.CX, 0, 1), when(1, api.X, 0)), api.ErrClash},
		{circuit(7, 0, on(api.Reset, 0)), api.ErrClash},
		{circuit(12, 8, look(11, 7)), api.ErrClash},
		{circuit(7, 0), api.ErrRange},
		{circuit(12, 8, on(api.H, 0)), api.ErrRange},
	}
	for _, x := range wrongCircuits() {
		l = append(l, wrong{x.c, x.e})
	}
	for i, x := range l {
		got, e := Matrix(x.c)
		wantMatrix(t, i, got, e, nil, x.e)
		for _, k := range []int{0, 1, -1, 64, 128, greatest, smallest} {
			a, e := Amplitude(x.c, k, 0)
			want(t, i, a, e, api.Num{}, x.e)
			a, e = Amplitude(x.c, 0, k)
			want(t, i, a, e, api.Num{}, x.e)
		}
	}
	for n := 1; n <= api.MaxState; n++ {
		c := circuit(n, 0, on(api.H, 0))
		for _, k := range []int{-1, 1 << n, 1<<n + 1, 128, greatest, smallest} {
			a, e := Amplitude(c, k, 0)
			want(t, n, a, e, api.Num{}, api.ErrNot)
			a, e = Amplitude(c, 1<<n-1, k)
			want(t, n, a, e, api.Num{}, api.ErrNot)
		}
		a, e := Amplitude(c, 1<<n-1, 1<<n-1)
		want(t, n, a, e, num(-1, 0, 0, 0, 1), api.OK)
	}
}

// P6.4: Equal tells the power of w between two operators.
func TestEqual(t *testing.T) {
	plain := func(wires int, gates ...api.Gate) api.Circuit { return circuit(wires, 0, gates...) }
	x, y, z, h := on(api.X, 0), on(api.Y, 0), on(api.Z, 0), on(api.H, 0)
	turn := []api.Gate{on(api.T, 0), x, on(api.T, 0), x} // w times the identity
	for i, q := range []struct {
		c, d   api.Circuit
		wanted int
		e      api.Errno
	}{
		{plain(1, x, z), plain(1, y), 2, api.OK},
		{plain(1, z, x), plain(1, y), 6, api.OK},
		{plain(1, h), plain(1, x), 0, api.ErrNone},
		{plain(1, on(api.T, 0), on(api.T, 0)), plain(1, on(api.S, 0)), 0, api.OK},
		{plain(1, on(api.T, 0)), plain(1), 0, api.ErrNone},
		{plain(2, on(api.Swap, 0, 1)), plain(2, on(api.CX, 0, 1), on(api.CX, 1, 0), on(api.CX, 0, 1)), 0, api.OK},
		{plain(2, on(api.CX, 0, 1)), plain(2, on(api.CX, 1, 0)), 0, api.ErrNone},
		{plain(6, on(api.CCX, 5, 3, 1)), plain(6, on(api.CCX, 3, 5, 1)), 0, api.OK},
		{plain(2, x), circuit(2, 5, x), 0, api.OK},
		{plain(1), plain(2), 0, api.ErrClash},
		{plain(12), plain(11), 0, api.ErrClash},
		{plain(7), plain(7), 0, api.ErrRange},
		{plain(1, on(api.Reset, 0)), plain(2, on(api.Reset, 0)), 0, api.ErrClash},
		{plain(1), plain(1, on(api.Reset, 0)), 0, api.ErrClash},
		{plain(1, on(api.Reset, 0)), plain(1), 0, api.ErrClash},
		{plain(7), plain(7, on(api.Reset, 0)), 0, api.ErrRange},
		{plain(7, on(api.Reset, 0)), plain(7), 0, api.ErrClash},
		{plain(1), plain(2, on(api.X, 2)), 0, api.ErrNot},
		{plain(1, on(api.Reset, 0)), plain(1, on(99, 0)), 0, api.ErrRange},
	} {
		got, e := Equal(q.c, q.d)
		want(t, i, got, e, q.wanted, q.e)
	}
	for power := range 8 {
		c := plain(3, slices.Repeat(turn, power)...)
		got, e := Equal(c, plain(3))
		want(t, power, got, e, power, api.OK)
		got, e = Equal(plain(3), c)
		want(t, power, got, e, (8-power)%8, api.OK)
	}
	for i, a := range wrongCircuits() {
		for j, b := range wrongCircuits() {
			got, e := Equal(a.c, b.c)
			want(t, fmt.Sprint(i, j), got, e, 0, a.e)
		}
		got, e := Equal(plain(7, on(api.Reset, 0)), a.c)
		want(t, i, got, e, 0, a.e)
	}
}

// P6.4: Equal, against the operators, for circuits that differ by what circ may do to them, and for others.
func TestEqualOfMany(t *testing.T) {
	s := from(12)
	for i := range 80 {
		c := s.plain(1+i%4, s.Intn(20))
		got, e := Equal(c, must(circ.Tidy(c)))
		want(t, c, got, e, 0, api.OK)
		got, e = Equal(must(circ.Cancel(c)), c)
		want(t, c, got, e, 0, api.OK)
		d := s.plain(1+i%4, s.Intn(4))
		got, e = Equal(c, d)
		wanted, f := matrix.Phase(must(Matrix(c)), must(Matrix(d)))
		want(t, c, got, e, wanted, f)
	}
}

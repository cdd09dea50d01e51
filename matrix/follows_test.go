package matrix

import (
	"fmt"
	"slices"
	"testing"

	"spoondrift/api"
)

// P3.4: products in any order of brackets, and products of sums.
func TestBracketsAndSums(t *testing.T) {
	s := from(20)
	for i := range 200 {
		size := func(k int) int { return 1 + (i/k+s.Intn(4))%4 }
		h, a, b, w := size(1), size(2), size(3), size(5)
		m, n, n2, l := s.matrix(h, a, 9), s.matrix(a, b, 9), s.matrix(a, b, 9), s.matrix(b, w, 9)
		mul, add := func(m, n [][]api.Num) [][]api.Num { return must(Mul(m, n)) }, func(m, n [][]api.Num) [][]api.Num { return must(Add(m, n)) }
		wantMatrix(t, "(m n) l", mul(mul(m, n), l), api.OK, mul(m, mul(n, l)), api.OK)
		wantMatrix(t, "m (n + n')", mul(m, add(n, n2)), api.OK, add(mul(m, n), mul(m, n2)), api.OK)
		wantMatrix(t, "(n + n') l", mul(add(n, n2), l), api.OK, add(mul(n, l), mul(n2, l)), api.OK)
		wantMatrix(t, "n + n'", add(n, n2), api.OK, add(n2, n), api.OK)
		v := s.vector(b, 9)
		inner := must(Apply(n, v))
		got, e := Apply(m, inner)
		wanted := must(Apply(mul(m, n), v))
		wantMatrix(t, "Apply after Apply", table(got), e, table(wanted), api.OK)
	}
}

// P3.4: Dagger of a product is the product of the Daggers, the other way round; done twice it changes nothing.
func TestDaggerOfProducts(t *testing.T) {
	s := from(21)
	for i := range 200 {
		m, n := s.matrix(1+i%4, 1+i/4%4, 30), s.matrix(1+i/4%4, 1+i/16%4, 30)
		a, b := must(Dagger(m)), must(Dagger(n))
		got, e := Dagger(must(Mul(m, n)))
		wanted := must(Mul(b, a))
		wantMatrix(t, "Dagger of m n", got, e, wanted, api.OK)
		got, e = Dagger(must(Kron(m, n)))
		wanted = must(Kron(a, b))
		wantMatrix(t, "Dagger of blocks", got, e, wanted, api.OK)
		got, e = Dagger(a)
		wantMatrix(t, "Dagger twice", got, e, must(Least(m)), api.OK)
	}
}

// wantUnitary fails the test if a matrix is not unitary.
func wantUnitary(t *testing.T, what any, m [][]api.Num, e api.Errno) {
	t.Helper()
	must(m, e)
	is, e := Unitary(m)
	want(t, what, is, e, true, api.OK)
}

// P3.4: the operators of all kinds are unitary; so are products, products of blocks, Daggers, and all on some wires.
func TestUnitaryOnes(t *testing.T) {
	s := from(22)
	for kind := api.X; kind <= api.CCX; kind++ {
		u := must(Of(kind))
		wantUnitary(t, kind, u, api.OK)
		for n := wiresOf(kind); n <= api.MaxState; n++ {
			on, e := On(u, s.Perm(n)[:wiresOf(kind)], n)
			wantUnitary(t, fmt.Sprint(kind, n), on, e)
		}
	}
	for n := 1; n <= 3; n++ {
		for range 10 {
			u, v := s.unitary(n), s.unitary(n)
			wantUnitary(t, "product", must(Mul(u, v)), api.OK)
			wantUnitary(t, "blocks", must(Kron(u, v)), api.OK)
			wantUnitary(t, "Dagger", must(Dagger(u)), api.OK)
			wantUnitary(t, "some wires", must(On(u, s.Perm(5)[:n], 5)), api.OK)
			got, e := Mul(u, must(Dagger(u)))
			wantMatrix(t, "the other way round", got, e, must(Identity(n)), api.OK)
		}
	}
}

// P3.4: an operator on some wires does not depend on the order in which it is put there with others on other wires.
func TestOtherWires(t *testing.T) {
	s := from(23)
	for range 60 {
		wires := s.Perm(4)
		cut := s.Intn(5)
		own, others := wires[:cut], wires[cut:]
		m, n := s.matrix(1<<len(own), 1<<len(own), 9), s.matrix(1<<len(others), 1<<len(others), 9)
		a, b := must(On(m, own, 4)), must(On(n, others, 4))
		one, other := must(Mul(a, b)), must(Mul(b, a))
		wantMatrix(t, wires, one, api.OK, other, api.OK)
		// Both at once: the wires of n are the higher ones of the blocks.
		blocks, e := On(must(Kron(n, m)), slices.Concat(own, others), 4)
		wantMatrix(t, wires, one, api.OK, blocks, e)
	}
}

// P3.4: on the same wires, the product of two operators is that of both; and on wires of wires, they are put there at once.
func TestOnOfProductsAndOfOn(t *testing.T) {
	s := from(24)
	for range 60 {
		wires := s.Perm(4)[:1+s.Intn(3)]
		side := 1 << len(wires)
		m, n := s.matrix(side, side, 9), s.matrix(side, side, 9)
		got, e := On(must(Mul(m, n)), wires, 4)
		wanted := must(Mul(must(On(m, wires, 4)), must(On(n, wires, 4))))
		wantMatrix(t, wires, got, e, wanted, api.OK)
		u := s.matrix(2, 2, 9)
		for k, wire := range wires {
			got, e := On(must(On(u, []int{k}, len(wires))), wires, 4)
			wanted := must(On(u, []int{wire}, 4))
			wantMatrix(t, wires, got, e, wanted, api.OK)
		}
	}
}

// P3.4: a unitary matrix does not change Inner; and Inner of v and m u is that of Dagger of m, v and u.
func TestInnerStays(t *testing.T) {
	s := from(25)
	for i := range 80 {
		n := 1 + i%4
		u, m, v, v2 := s.unitary(n), s.matrix(1<<n, 1<<n, 9), s.vector(1<<n, 20), s.vector(1<<n, 20)
		wanted := must(Inner(v, v2))
		got, e := Inner(must(Apply(u, v)), must(Apply(u, v2)))
		want(t, v, got, e, wanted, api.OK)
		got, e = Inner(v, must(Apply(m, v2)))
		wanted = must(Inner(must(Apply(must(Dagger(m)), v)), v2))
		want(t, v, got, e, wanted, api.OK)
	}
}

// P3.4: Trace of m n is that of n m, for all sizes that allow both.
func TestTraceOfProducts(t *testing.T) {
	s := from(26)
	for high := 1; high <= 6; high++ {
		for wide := 1; wide <= 6; wide++ {
			m, n := s.matrix(high, wide, 50), s.matrix(wide, high, 50)
			got, e := Trace(must(Mul(m, n)))
			wanted := must(Trace(must(Mul(n, m))))
			want(t, "Trace", got, e, wanted, api.OK)
		}
	}
}

// P3.4: what gates do together, as operators on wires: Swap is three of CX, CZ is CX between two of H, and so on.
func TestKnownCircuits(t *testing.T) {
	type gate struct {
		kind  int
		wires []int
	}
	product := func(n int, gates ...gate) [][]api.Num {
		u := must(Identity(n))
		for _, g := range gates {
			u = must(Mul(must(On(must(Of(g.kind)), g.wires, n)), u))
		}
		return u
	}
	a, b, ab, ba := []int{0}, []int{1}, []int{0, 1}, []int{1, 0}
	for i, x := range []struct {
		n, phase int
		one      []gate
		other    []gate
	}{
		{2, 0, []gate{{api.CX, ab}, {api.CX, ba}, {api.CX, ab}}, []gate{{api.Swap, ba}}},
		{2, 0, []gate{{api.H, b}, {api.CX, ab}, {api.H, b}}, []gate{{api.CZ, ba}}},
		{2, 0, []gate{{api.H, a}, {api.H, b}, {api.CX, ab}, {api.H, a}, {api.H, b}}, []gate{{api.CX, ba}}},
		{1, 0, []gate{{api.T, a}, {api.T, a}}, []gate{{api.S, a}}},
		{1, 0, []gate{{api.S, a}, {api.S, a}}, []gate{{api.Z, a}}},
		{1, 0, []gate{{api.T, a}, {api.Td, a}, {api.Sd, a}, {api.S, a}}, nil},
		{1, 0, []gate{{api.H, a}, {api.Z, a}, {api.H, a}}, []gate{{api.X, a}}},
		{1, 2, []gate{{api.X, a}, {api.Z, a}}, []gate{{api.Y, a}}},
		{1, 6, []gate{{api.Z, a}, {api.X, a}}, []gate{{api.Y, a}}},
		{1, 1, []gate{{api.H, a}, {api.S, a}, {api.H, a}, {api.S, a}, {api.H, a}, {api.S, a}}, nil},
	} {
		k, e := Phase(product(x.n, x.one...), product(x.n, x.other...))
		want(t, i, k, e, x.phase, api.OK)
	}
}

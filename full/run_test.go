package full

import (
	"fmt"
	"slices"
	"testing"

	"spoondrift/api"
)

// branch is outcomes, bits and a state.
func branch(bits int, v []api.Num, outcomes ...int) Branch {
	return Branch{Outcomes: outcomes, Bits: bits, State: v}
}

// resets is so many Resets of wire 0.
func resets(n int) []api.Gate { return slices.Repeat([]api.Gate{on(api.Reset, 0)}, n) }

// P6.3: the branches of small circuits, and the norms of those that have the same bits in the end.
func TestRuns(t *testing.T) {
	h, root, zero := on(api.H, 0), over(1), whole(0)
	for i, x := range []struct {
		c      api.Circuit
		v      []api.Num
		wanted []Branch
		bits   []api.Num
	}{
		{circuit(2, 2, h, on(api.CX, 0, 1), look(0, 0), look(1, 1)), wholes(1, 0, 0, 0), []Branch{branch(0, row(root, zero, zero, zero), 0, 0), branch(3, row(zero, zero, zero, root), 1, 1)}, row(over(2), zero, zero, over(2))},
		{circuit(1, 0, h, on(api.Reset, 0)), wholes(1, 0), []Branch{branch(0, row(root, zero), 0), branch(0, row(root, zero), 1)}, wholes(1)},
		{circuit(1, 1, h, look(0, 0), when(1, api.X, 0)), wholes(1, 0), []Branch{branch(0, row(root, zero), 0), branch(1, row(root, zero), 1)}, row(over(2), over(2))},
		// An outcome is told, and kept in the bit that is named.
		{circuit(1, 3, look(0, 1)), wholes(2, 3), []Branch{branch(0, wholes(2, 0), 0), branch(2, wholes(0, 3), 1)}, wholes(4, 0, 9, 0, 0, 0, 0, 0)},
		// A bit that is written again becomes 0 too.
		{circuit(1, 1, on(api.X, 0), look(0, 0), on(api.X, 0), look(0, 0)), wholes(1, 0), []Branch{branch(0, wholes(1, 0), 1, 0)}, wholes(1, 0)},
		{circuit(1, 2, look(0, 1), on(api.X, 0), look(0, 1), when(2, api.Z, 0), when(1, api.X, 0)), wholes(2, 0), []Branch{branch(2, wholes(0, -2), 0, 1)}, wholes(0, 0, 4, 0)},
		// Bits are 0 in the beginning; a bit that is 0 leaves the gate out, whatever its wire is.
		{circuit(1, 1, when(1, api.X, 0), look(0, 0), when(1, api.X, 0)), wholes(0, 5), []Branch{branch(1, wholes(5, 0), 1)}, wholes(0, 25)},
		// A Reset writes no bit, and turns over nothing but its wire.
		{circuit(2, 1, on(api.Reset, 1)), wholes(1, 2, 3, 4), []Branch{branch(0, wholes(1, 2, 0, 0), 0), branch(0, wholes(3, 4, 0, 0), 1)}, wholes(30, 0)},
		{circuit(2, 1, on(api.Reset, 1), look(0, 0)), wholes(1, 2, 3, 4), []Branch{branch(0, wholes(1, 0, 0, 0), 0, 0), branch(1, wholes(0, 2, 0, 0), 0, 1), branch(0, wholes(3, 0, 0, 0), 1, 0), branch(1, wholes(0, 4, 0, 0), 1, 1)}, wholes(10, 20)},
		// Dead ones are left out, all of them too.
		{circuit(1, 0), wholes(0, 3), []Branch{branch(0, wholes(0, 3))}, wholes(9)},
		{circuit(1, 0), wholes(0, 0), nil, wholes(0)},
		{circuit(1, 1, h, look(0, 0)), row(num(0, 0, 0, 0, 60), zero), nil, wholes(0, 0)},
		{circuit(1, 0, resets(8)...), wholes(1, 0), []Branch{branch(0, wholes(1, 0), 0, 0, 0, 0, 0, 0, 0, 0)}, wholes(1)},
		{circuit(1, 0, resets(8)...), wholes(0, 1), []Branch{branch(0, wholes(1, 0), 1, 0, 0, 0, 0, 0, 0, 0)}, wholes(1)},
		// States are in least form, with no gates too.
		{circuit(1, 0), row(num(2, 0, 0, 0, 2), num(1, 0, 1, 0, 1)), []Branch{branch(0, row(whole(1), num(0, 1, 0, 0, 0)))}, wholes(2)},
		{circuit(1, 1, look(0, 0)), row(num(2, 0, 0, 0, 2), num(0, 0, 0, 0, 3)), []Branch{branch(0, wholes(1, 0), 0)}, wholes(1, 0)},
		{circuit(1, 8), wholes(1, 0), []Branch{branch(0, wholes(1, 0))}, append(wholes(1), make([]api.Num, 255)...)},
	} {
		got, e := Run(x.c, x.v)
		wantBranches(t, i, got, e, x.wanted, api.OK)
		bits, e := Bits(x.c, x.v)
		wantState(t, i, bits, e, x.bits, api.OK)
		for _, b := range x.wanted {
			along, e := Along(x.c, x.v, b.Outcomes)
			wantBranches(t, i, []Branch{along}, e, []Branch{b}, api.OK)
		}
	}
}

// wantRuns fails the test if Run, Bits or Along differ from the words of the chapter.
func wantRuns(t *testing.T, c api.Circuit, v []api.Num) (large bool) {
	t.Helper()
	wanted, f := allBranches(c, v)
	got, e := Run(c, v)
	wantBranches(t, c, got, e, wanted, f)
	bits, e := Bits(c, v)
	if f != api.OK {
		wantState(t, c, bits, e, nil, f)
	} else {
		sums, f := sumsOf(c.Bits, wanted)
		wantState(t, c, bits, e, sums, f)
	}
	for _, outcomes := range lists(finds(c)) {
		wanted, g := goneAlong(c, v, outcomes)
		if g == api.OK && isDead(wanted.State) {
			wanted, g = Branch{}, api.ErrNone
		}
		got, e := Along(c, v, outcomes)
		wantBranches(t, fmt.Sprint(c, outcomes), []Branch{got}, e, []Branch{wanted}, g)
	}
	return f != api.OK
}

// P6.3: many circuits, from states of all kinds, against the words of the chapter.
func TestRunsOfMany(t *testing.T) {
	s := from(9)
	for i := range 500 {
		n := 1 + i%4
		c := s.circuit(n, i/4%5, s.Intn(25), s.Intn(5))
		wantRuns(t, c, s.state(n, 9))
		wantRuns(t, c, must(Basis(n, s.Intn(1<<n))))
	}
	for i := range 6 {
		c := s.circuit(5+i%2, 8, 40, 4)
		wantRuns(t, c, must(Basis(c.Wires, s.Intn(1<<c.Wires))))
	}
}

// P6.3: what is too large, in one of the branches or in all of them.
func TestRunsTooLarge(t *testing.T) {
	s := from(10)
	large := 0
	for i := range 800 {
		n := 1 + i%3
		if wantRuns(t, s.circuit(n, 2, s.Intn(20), s.Intn(4)), s.edge(n)) {
			large++
		}
	}
	if large < 100 || large > 700 {
		t.Error("too large:", large)
	}
	h, big, zero := on(api.H, 0), num(0, most, 0, -most, 0), whole(0)
	for i, x := range []struct {
		c       api.Circuit
		v       []api.Num
		e, f    api.Errno
		along   []int
		g, last api.Errno
	}{
		// Along goes through its own branch alone, and dead branches are never too large.
		{circuit(2, 1, look(1, 0), h), row(big, big, whole(1), zero), api.ErrLarge, api.ErrLarge, []int{1}, api.OK, api.ErrLarge},
		{circuit(2, 1, look(1, 0), h), row(whole(1), zero, big, big), api.ErrLarge, api.ErrLarge, []int{0}, api.OK, api.ErrLarge},
		{circuit(1, 1, look(0, 0), h, h), row(whole(0), big), api.OK, api.ErrLarge, []int{1}, api.OK, api.ErrNone},
		{circuit(1, 1, h, look(0, 0)), row(big, big), api.ErrLarge, api.ErrLarge, []int{1}, api.ErrLarge, api.ErrLarge},
		// Only norms are too large.
		{circuit(1, 1, look(0, 0)), wholes(most, 0), api.OK, api.ErrLarge, []int{0}, api.OK, api.ErrNone},
		// A gate that is left out is not too large.
		{circuit(1, 1, when(1, api.H, 0), look(0, 0)), row(big, big), api.OK, api.ErrLarge, []int{1}, api.OK, api.OK},
	} {
		if _, e := Run(x.c, x.v); e != x.e {
			t.Error(i, e)
		}
		if l, e := Bits(x.c, x.v); e != x.f || l != nil {
			t.Error(i, e)
		}
		for k, wanted := range []api.Errno{x.g, x.last} {
			if b, e := Along(x.c, x.v, []int{x.along[0] ^ k}); e != wanted || e != api.OK && !isZero(b) {
				t.Error(i, k, b, e)
			}
		}
	}
}

// P6.3: the norms of Bits are added branch by branch, in their order.
func TestSumsOfBits(t *testing.T) {
	small, zero := over(20), whole(0)
	for i, x := range []struct {
		v      []api.Num
		wanted api.Num
		e      api.Errno
	}{
		// 1/r^40 and 2^10 together are too large, 1/r^36 and 2^10 are not.
		{row(small, small, small, small, whole(32), zero, zero, zero), num(1<<28+1, 0, 0, 0, 36), api.OK},
		{row(whole(32), small, small, small, small, zero, zero, zero), api.Num{}, api.ErrLarge},
		{row(small, small, small, whole(32), small, zero, zero, zero), api.Num{}, api.ErrLarge},
	} {
		// The branches have the order of the basis states, and all of them the same bits.
		c := circuit(3, 0, on(api.Reset, 2), on(api.Reset, 1), on(api.Reset, 0))
		var wanted []api.Num
		if x.e == api.OK {
			wanted = row(x.wanted)
		}
		got, e := Bits(c, x.v)
		wantState(t, i, got, e, wanted, x.e)
	}
	// What is too large together is not if the bits differ.
	got, e := Bits(circuit(1, 1, look(0, 0)), wholes(1<<15, 1<<15))
	wantState(t, "two bits", got, e, wholes(1<<30, 1<<30), api.OK)
	got, e = Bits(circuit(1, 0, on(api.Reset, 0)), wholes(1<<15, 1<<15))
	wantState(t, "no bits", got, e, nil, api.ErrLarge)
}

// P6.3: the errors of circuits come before those of states, and those before all others.
func TestErrorsOfRuns(t *testing.T) {
	many := circuit(1, 0, resets(9)...)
	mixed := circuit(1, 1, append(resets(5), slices.Repeat([]api.Gate{look(0, 0)}, 4)...)...)
	high := append(make([]api.Num, 63), num(0, 0, 0, 0, 99))
	type wrong struct {
		c        api.Circuit
		v        []api.Num
		outcomes []int
		e        api.Errno
	}
	l := []wrong{
		{circuit(2, 0), wholes(1, 0), []int{5, 5}, api.ErrClash},
		{circuit(1, 0), wholes(1), nil, api.ErrClash},
		{circuit(1, 0), wholes(1, 0, 0, 0), nil, api.ErrClash},
		{circuit(7, 0), make([]api.Num, 64), nil, api.ErrClash},
		{circuit(12, 0), make([]api.Num, 64), nil, api.ErrClash},
		{circuit(2, 0, resets(9)...), wholes(1, 0), make([]int, 9), api.ErrClash},
		{circuit(2, 0, on(api.H, 0)), wholes(most, most), nil, api.ErrClash},
		{many, wholes(1, 0), make([]int, 9), api.ErrMany},
		{many, wholes(1, 0), []int{7}, api.ErrMany},
		{mixed, wholes(0, 0), make([]int, 9), api.ErrMany},
		{circuit(1, 0, append([]api.Gate{on(api.H, 0)}, resets(9)...)...), row(over(60), whole(0)), make([]int, 9), api.ErrMany},
		{circuit(1, 0, resets(api.MaxGates)...), wholes(1, 0), make([]int, api.MaxGates), api.ErrMany},
	}
	for _, x := range wrongCircuits() {
		for _, v := range [][]api.Num{nil, high, wholes(1, 0)} {
			l = append(l, wrong{x.c, v, []int{3}, x.e})
		}
	}
	for _, x := range wrongStates() {
		for _, c := range []api.Circuit{circuit(1, 1, look(0, 0)), many, circuit(12, 0)} {
			l = append(l, wrong{c, x.v, []int{3}, x.e})
		}
	}
	for i, x := range l {
		got, e := Run(x.c, x.v)
		wantBranches(t, i, got, e, nil, x.e)
		along, e := Along(x.c, x.v, x.outcomes)
		wantBranches(t, i, []Branch{along}, e, []Branch{{}}, x.e)
		bits, e := Bits(x.c, x.v)
		wantState(t, i, bits, e, nil, x.e)
	}
}

// P6.3: the errors of Along: too many or too few outcomes, what is none, what is too large, and what is dead.
func TestErrorsOfAlong(t *testing.T) {
	h, one := on(api.H, 0), circuit(1, 1, look(0, 0))
	large := circuit(1, 1, h, look(0, 0), on(api.X, 0), look(0, 0))
	for i, x := range []struct {
		c        api.Circuit
		v        []api.Num
		outcomes []int
		e        api.Errno
	}{
		{one, wholes(1, 0), nil, api.ErrMany},
		{one, wholes(1, 0), []int{0, 0}, api.ErrMany},
		{one, wholes(1, 0), []int{2, 2}, api.ErrMany},
		{one, wholes(1, 0), make([]int, 1000), api.ErrMany},
		{circuit(1, 0), wholes(1, 0), []int{0}, api.ErrMany},
		{circuit(1, 0, resets(8)...), wholes(1, 0), make([]int, 7), api.ErrMany},
		{circuit(1, 0, resets(8)...), wholes(1, 0), make([]int, 9), api.ErrMany},
		{circuit(1, 0, resets(8)...), wholes(1, 0), []int{0, 0, 0, 0, 0, 0, 0, 2}, api.ErrRange},
		{one, wholes(1, 0), []int{2}, api.ErrRange},
		{one, wholes(1, 0), []int{-1}, api.ErrRange},
		{one, wholes(0, 0), []int{greatest}, api.ErrRange},
		{one, wholes(0, 1), []int{smallest}, api.ErrRange},
		{large, row(over(60), whole(0)), []int{0, 2}, api.ErrRange},
		{large, row(over(60), whole(0)), []int{0, 0}, api.ErrLarge},
		{large, wholes(1, 0), []int{0, 0}, api.ErrNone},
		{large, wholes(1, 0), []int{1, 1}, api.ErrNone},
		{one, wholes(1, 0), []int{1}, api.ErrNone},
		{circuit(1, 1, look(0, 0), h, look(0, 0)), wholes(1, 0), []int{1, 0}, api.ErrNone},
		{circuit(1, 0), wholes(0, 0), nil, api.ErrNone},
	} {
		got, e := Along(x.c, x.v, x.outcomes)
		wantBranches(t, i, []Branch{got}, e, []Branch{{}}, x.e)
	}
	got, e := Along(circuit(1, 0, resets(8)...), wholes(0, 7), []int{1, 0, 0, 0, 0, 0, 0, 0})
	wantBranches(t, "8 outcomes", []Branch{got}, e, []Branch{branch(0, wholes(7, 0), 1, 0, 0, 0, 0, 0, 0, 0)}, api.OK)
}

// P6.3: 8 Measures, all 256 branches, in their order.
func TestAllBranches(t *testing.T) {
	c := circuit(1, 8)
	for bit := range 8 {
		c.Gates = append(c.Gates, on(api.H, 0), look(0, bit))
	}
	l, e := Run(c, wholes(1, 0))
	if e != api.OK || len(l) != 256 {
		t.Fatal(len(l), e)
	}
	for i, outcomes := range lists(8) {
		bits := 0
		for k, o := range outcomes {
			bits |= o << k
		}
		if !slices.Equal(l[i].Outcomes, outcomes) || l[i].Bits != bits {
			t.Error(i, l[i])
		}
	}
	got, e := Bits(c, wholes(1, 0))
	wantState(t, "Bits", got, e, slices.Repeat(row(over(16)), 256), api.OK)
}

package full

import (
	"fmt"
	"slices"
	"testing"

	"spoondrift/api"
)

// P6.2: all gates on all wires of up to four wires, against residues and against operators of chapter 3.
func TestApplyAllGates(t *testing.T) {
	s := from(5)
	for n := 1; n <= 4; n++ {
		for _, g := range allGates(n) {
			for k := range 1 << n {
				got, e := Apply(must(Basis(n, k)), g)
				wanted := make([]int, 1<<n)
				wanted[k] = 1
				wantResidues(t, g, got, e, movedAll(g, wanted))
			}
			v := s.state(n, 40)
			got, e := Apply(v, g)
			wantResidues(t, g, got, e, movedAll(g, residues(v)))
			wanted, f := appliedTo(v, g)
			wantState(t, g, got, e, wanted, f)
		}
	}
}

// P6.2: gates on the greatest states.
func TestApplyManyWires(t *testing.T) {
	s := from(6)
	for i := range 120 {
		n := 5 + i%2
		v, g := s.state(n, 40), s.gate(n, 0, false)
		got, e := Apply(v, g)
		wantResidues(t, g, got, e, movedAll(g, residues(v)))
	}
}

// P6.2: an amplitude is too large just if one of the products or sums is, from the left to the right.
func TestApplyTooLarge(t *testing.T) {
	s := from(7)
	large := 0
	for i := range 4000 {
		n := 1 + i%4
		v := s.edge(n)
		g := s.gate(n, 0, false)
		if i%2 == 0 {
			g = on(api.H, s.Intn(n))
		}
		wanted, f := appliedTo(v, g)
		if f != api.OK {
			large++
		}
		got, e := Apply(v, g)
		wantState(t, fmt.Sprint(v, g), got, e, wanted, f)
	}
	if large < 400 || large > 3600 {
		t.Error("too large:", large)
	}
}

// P6.2: the edges of what is too large, and that other forms of numbers change nothing.
func TestApplyEdges(t *testing.T) {
	root, minus, zero := over(1), num(-1, 0, 0, 0, 1), whole(0)
	big := num(0, most, 0, -most, 0) // r times the greatest coefficient
	small := over(60)
	for i, x := range []struct {
		v      []api.Num
		g      api.Gate
		wanted []api.Num
		e      api.Errno
	}{
		{wholes(1, 0), on(api.H, 0), row(root, root), api.OK},
		{wholes(0, 1), on(api.H, 0), row(root, minus), api.OK},
		{row(root, root), on(api.H, 0), wholes(1, 0), api.OK},
		{wholes(0, 0), on(api.H, 0), wholes(0, 0), api.OK},
		{wholes(1, 2, 3, 4), on(api.X, 1), wholes(3, 4, 1, 2), api.OK},
		{wholes(1, 2, 3, 4), on(api.CX, 0, 1), wholes(1, 4, 3, 2), api.OK},
		{wholes(1, 2, 3, 4), on(api.CX, 1, 0), wholes(1, 2, 4, 3), api.OK},
		{wholes(1, 2, 3, 4, 5, 6, 7, 8), on(api.CCX, 2, 1, 0), wholes(1, 2, 3, 4, 5, 6, 8, 7), api.OK},
		{row(num(2, 0, 0, 0, 2), num(0, 0, 0, 0, 5)), on(api.Z, 0), wholes(1, 0), api.OK},
		{row(num(2, 0, 0, 0, 2), zero, num(1, 0, 1, 0, 1), zero), on(api.X, 0), row(zero, whole(1), zero, num(0, 1, 0, 0, 0)), api.OK},
		{row(small, zero), on(api.X, 0), row(zero, small), api.OK},
		{row(small, zero), on(api.H, 0), nil, api.ErrLarge},
		{row(small, small), on(api.H, 0), nil, api.ErrLarge}, // the sum of both products would be 1 / r^59
		{row(over(59), over(59)), on(api.H, 0), row(over(58), zero), api.OK},
		{row(big, zero), on(api.H, 0), wholes(most, most), api.OK},
		{row(big, big), on(api.H, 0), nil, api.ErrLarge},
		{row(big, num(0, -most, 0, most, 0)), on(api.H, 0), nil, api.ErrLarge},
		{wholes(most, most), on(api.H, 0), row(big, zero), api.OK},
		{wholes(most, -most), on(api.H, 0), row(zero, big), api.OK},
		{wholes(most, most), on(api.Y, 0), row(num(0, 0, -most, 0, 0), num(0, 0, most, 0, 0)), api.OK},
		{row(zero, zero, big, big), on(api.H, 0), nil, api.ErrLarge},
		{row(zero, zero, big, big), on(api.H, 1), row(whole(most), whole(most), whole(-most), whole(-most)), api.OK},
	} {
		got, e := Apply(x.v, x.g)
		wantState(t, i, got, e, x.wanted, x.e)
	}
}

// P6.2: the errors of gates, each alone and before those that come after it; on states of no wire too.
func TestWrongGates(t *testing.T) {
	for i, x := range []struct {
		g api.Gate
		e api.Errno
	}{
		{api.Gate{}, api.ErrRange},
		{on(0, 0), api.ErrRange},
		{on(-1, 0), api.ErrRange},
		{on(api.Measure, 0), api.ErrRange},
		{on(api.Reset, 0), api.ErrRange},
		{on(15), api.ErrRange},
		{on(greatest, 9, 9), api.ErrRange},
		{on(smallest, -1), api.ErrRange},
		{on(api.X), api.ErrMany},
		{on(api.X, 0, 1), api.ErrMany},
		{on(api.CX, 9), api.ErrMany},
		{on(api.Swap, 1, 1, 1), api.ErrMany},
		{on(api.CCX, 9, 9), api.ErrMany},
		{on(api.CCX, 0, 1, 2, 3), api.ErrMany},
		{on(api.H, 2), api.ErrNot},
		{on(api.H, -1), api.ErrNot},
		{on(api.H, greatest), api.ErrNot},
		{on(api.H, smallest), api.ErrNot},
		{on(api.CZ, 0, 2), api.ErrNot},
		{on(api.CZ, 2, 2), api.ErrNot},
		{on(api.CCX, 1, 1, 2), api.ErrNot},
		{on(api.CCX, 0, 1, 2), api.ErrNot},
		{on(api.CX, 1, 1), api.ErrTwice},
		{on(api.CZ, 0, 0), api.ErrTwice},
		{on(api.CCX, 0, 1, 0), api.ErrTwice},
		{on(api.CCX, 1, 1, 0), api.ErrTwice},
		{on(api.CCX, 0, 1, 1), api.ErrTwice},
	} {
		for _, v := range [][]api.Num{wholes(1, 0, 0, 0), slices.Repeat(row(over(60)), 4), slices.Repeat(row(whole(most)), 4)} {
			got, e := Apply(v, x.g)
			wantState(t, i, got, e, nil, x.e)
		}
		wanted := x.e
		if wanted == api.ErrTwice {
			wanted = api.ErrNot
		}
		got, e := Apply(wholes(1), x.g)
		wantState(t, i, got, e, nil, wanted)
	}
	for kind := api.X; kind <= api.CCX; kind++ {
		for n := range 5 {
			wanted := api.ErrMany
			if n == arities[kind] {
				wanted = api.ErrNot
			}
			got, e := Apply(wholes(1), on(kind, make([]int, n)...))
			wantState(t, kind, got, e, nil, wanted)
		}
	}
}

// P6.2: Apply does not look at Bit and If.
func TestBitAndIf(t *testing.T) {
	for _, n := range []int{smallest, -1, 0, 1, 9, greatest} {
		got, e := Apply(wholes(1, 1), api.Gate{Kind: api.S, Wires: []int{0}, Bit: n, If: -n})
		wantState(t, n, got, e, row(whole(1), num(0, 0, 1, 0, 0)), api.OK)
	}
}

// P6.2: what is found on each wire, and the odds of 1.
func TestFindAndOdds(t *testing.T) {
	s := from(8)
	for n := 1; n <= api.MaxState; n++ {
		for wire := range n {
			for range 10 {
				v := s.state(n, 60)
				for outcome := range 2 {
					got, e := Find(v, wire, outcome)
					wantState(t, v, got, e, foundIn(v, wire, outcome), api.OK)
				}
				got, e := Odds(v, wire)
				wanted, f := normOf(foundIn(v, wire, 1))
				want(t, v, got, e, wanted, f)
			}
		}
	}
	large := 0
	for i := range 1000 {
		n := 1 + i%3
		v, wire := s.edge(n), s.Intn(n)
		wanted, f := normOf(foundIn(v, wire, 1))
		if f != api.OK {
			large++
		}
		got, e := Odds(v, wire)
		want(t, v, got, e, wanted, f)
	}
	if large < 100 || large > 900 {
		t.Error("too large:", large)
	}
}

// P6.2: the edges and the errors of Find and Odds: no such wire before no such outcome.
func TestFindAndOddsEdges(t *testing.T) {
	bell := row(over(1), whole(0), whole(0), over(1))
	for i, x := range []struct {
		v             []api.Num
		wire, outcome int
		wanted        []api.Num
		e             api.Errno
		odds          api.Num
		f             api.Errno
	}{
		{bell, 0, 0, row(over(1), whole(0), whole(0), whole(0)), api.OK, over(2), api.OK},
		{bell, 1, 1, row(whole(0), whole(0), whole(0), over(1)), api.OK, over(2), api.OK},
		{wholes(1, 2, 3, 4), 0, 1, wholes(0, 2, 0, 4), api.OK, whole(20), api.OK},
		{wholes(1, 2, 3, 4), 1, 0, wholes(1, 2, 0, 0), api.OK, whole(25), api.OK},
		{row(num(2, 0, 0, 0, 2), num(1, 0, 1, 0, 1)), 0, 1, row(whole(0), num(0, 1, 0, 0, 0)), api.OK, whole(1), api.OK},
		{row(num(2, 0, 0, 0, 2), num(0, 0, 0, 0, 8)), 0, 0, wholes(1, 0), api.OK, whole(0), api.OK},
		{wholes(0, most), 0, 1, wholes(0, most), api.OK, api.Num{}, api.ErrLarge},
		{wholes(most, 1), 0, 0, wholes(most, 0), api.OK, whole(1), api.OK},
		{bell, 0, 2, nil, api.ErrRange, over(2), api.OK},
		{bell, 0, -1, nil, api.ErrRange, over(2), api.OK},
		{bell, 1, greatest, nil, api.ErrRange, over(2), api.OK},
		{bell, 1, smallest, nil, api.ErrRange, over(2), api.OK},
		{bell, 2, 2, nil, api.ErrNot, api.Num{}, api.ErrNot},
		{bell, -1, 0, nil, api.ErrNot, api.Num{}, api.ErrNot},
		{bell, greatest, -1, nil, api.ErrNot, api.Num{}, api.ErrNot},
		{bell, smallest, 1, nil, api.ErrNot, api.Num{}, api.ErrNot},
		{wholes(1), 0, 0, nil, api.ErrNot, api.Num{}, api.ErrNot},
		{wholes(most), 0, 5, nil, api.ErrNot, api.Num{}, api.ErrNot},
		{slices.Repeat(row(whole(most)), 2), 1, 1, nil, api.ErrNot, api.Num{}, api.ErrNot},
	} {
		got, e := Find(x.v, x.wire, x.outcome)
		wantState(t, i, got, e, x.wanted, x.e)
		odds, f := Odds(x.v, x.wire)
		want(t, i, odds, f, x.odds, x.f)
	}
}

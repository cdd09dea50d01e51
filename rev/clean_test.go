package rev

import (
	"slices"
	"testing"

	"spoondrift/api"
)

// sets are all lists of different wires, rising.
func sets(wires int) [][]int {
	var l [][]int
	for number := range 1 << wires {
		var set []int
		for k, is := range wiresOf(number, wires) {
			if is {
				set = append(set, k)
			}
		}
		l = append(l, set)
	}
	return l
}

// P8.5: the least states by which something is left behind, for all wires of small circuits.
func TestCleanAndBorrowed(t *testing.T) {
	s := from(10)
	clean, borrowed := 0, 0
	for i := range 400 {
		wires := 1 + i%4
		c := s.circuit(wires, s.Intn(7))
		c.Bits = i % 9
		for _, l := range sets(wires) {
			slices.Reverse(l)
			state, e := Clean(c, l)
			wantFound(t, c, state, e, leaves(c, l))
			lent, f := Borrowed(c, l)
			wantFound(t, c, lent, f, lends(c, l))
			if e == api.ErrNone && len(l) > 0 {
				clean++
			}
			if f == api.ErrNone && len(l) > 0 {
				borrowed++
			}
		}
	}
	if clean < 100 || borrowed < 100 {
		t.Error(clean, borrowed)
	}
}

// P8.5: the same for large circuits, and for wires that are used and then given back.
func TestCleanAndBorrowedLarge(t *testing.T) {
	s := from(11)
	for i := range 60 {
		wires := 5 + i%8
		c := s.circuit(wires, s.Intn(api.MaxGates/3))
		used := s.gate(wires)
		c.Gates = slices.Concat([]api.Gate{used}, c.Gates, []api.Gate{used})
		for range 2 {
			l := s.Perm(wires)[:1+s.Intn(3)]
			state, e := Clean(c, l)
			wantFound(t, c, state, e, leaves(c, l))
			lent, f := Borrowed(c, l)
			wantFound(t, c, lent, f, lends(c, l))
		}
	}
	// Only the last state of all is left dirty, or no state.
	last := circuit(12, ccx(0, 1, 6), ccx(2, 3, 7), ccx(4, 5, 8), ccx(6, 7, 9), ccx(8, 9, 10), cx(10, 11), ccx(8, 9, 10), ccx(6, 7, 9), ccx(4, 5, 8), ccx(2, 3, 7), ccx(0, 1, 6))
	ancillas := []int{6, 7, 8, 9, 10}
	state, e := Clean(last, append(ancillas, 11))
	wantFound(t, "last", state, e, 63)
	state, e = Clean(last, ancillas)
	wantFound(t, "last", state, e, -1)
	state, e = Borrowed(last, []int{8})
	wantFound(t, "last", state, e, lends(last, []int{8}))
}

// P8.5: wires that do not exist come before those that come twice, and both before any answer.
func TestWrongWires(t *testing.T) {
	c := circuit(3, x(1), ccx(0, 1, 2))
	for _, wrong := range []struct {
		l []int
		e api.Errno
	}{
		{[]int{3}, api.ErrNot},
		{[]int{-1}, api.ErrNot},
		{[]int{0, 1, 2, smallest}, api.ErrNot},
		{[]int{greatest, 0}, api.ErrNot},
		{[]int{1, 1, 3}, api.ErrNot},
		{append(make([]int, 100), 12), api.ErrNot},
		{[]int{1, 1}, api.ErrTwice},
		{[]int{2, 0, 1, 0}, api.ErrTwice},
		{make([]int, 100), api.ErrTwice},
	} {
		state, e := Clean(c, wrong.l)
		want(t, wrong.l, state, e, 0, wrong.e)
		state, e = Borrowed(c, wrong.l)
		want(t, wrong.l, state, e, 0, wrong.e)
	}
	for _, c := range []api.Circuit{circuit(1), c} {
		state, e := Clean(c, nil)
		want(t, c, state, e, 0, api.ErrNone)
		state, e = Borrowed(c, []int{})
		want(t, c, state, e, 0, api.ErrNone)
	}
}

// kept is the circuit of Keep, however large it is.
func kept(c api.Circuit, outs []int) api.Circuit {
	back := slices.Clone(c.Gates)
	slices.Reverse(back)
	d := api.Circuit{Wires: c.Wires, Bits: c.Bits, Gates: slices.Clone(c.Gates)}
	for _, k := range outs {
		d.Gates = append(d.Gates, cx(k, d.Wires))
		d.Wires++
	}
	d.Gates = append(d.Gates, back...)
	return d
}

// P8.5: Keep, with wires that come twice, and up to the limits.
func TestKeep(t *testing.T) {
	s := from(12)
	found := map[api.Errno]int{}
	for i := range 4000 {
		wires := 1 + i%api.MaxWires
		c := s.circuit(wires, []int{s.Intn(5), 40 + s.Intn(30)}[s.Intn(2)])
		c.Bits = s.Intn(9)
		outs := make([]int, s.Intn(api.MaxWires))
		for k := range outs {
			outs[k] = s.Intn(wires)
		}
		wanted := kept(c, outs)
		wantedError := compileError(wanted)
		if s.Intn(20) == 0 && len(outs) > 0 {
			outs[s.Intn(len(outs))] = []int{-1, wires, smallest, greatest}[s.Intn(4)]
			wantedError = api.ErrNot
		}
		found[wantedError]++
		if wantedError != api.OK {
			wanted = api.Circuit{}
		}
		d, e := Keep(c, outs)
		want(t, c, d, e, wanted, wantedError)
	}
	if found[api.OK] < 100 || found[api.ErrNot] < 50 || found[api.ErrFull] < 100 || found[api.ErrMany] < 100 {
		t.Error(found)
	}
	for _, limit := range []struct {
		gates, outs int
		e           api.Errno
	}{{60, 0, api.OK}, {61, 0, api.ErrMany}, {59, 2, api.OK}, {59, 3, api.ErrMany}, {120, 0, api.ErrMany}, {54, 11, api.OK}, {55, 11, api.ErrMany}, {55, 12, api.ErrFull}, {0, 12, api.ErrFull}} {
		c := s.circuit(1, limit.gates)
		wanted := kept(c, make([]int, limit.outs))
		if limit.e != api.OK {
			wanted = api.Circuit{}
		}
		d, e := Keep(c, make([]int, limit.outs))
		want(t, limit, d, e, wanted, limit.e)
	}
}

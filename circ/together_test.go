package circ

import (
	"fmt"
	"slices"
	"testing"

	"spoondrift/api"
)

// P4.2: the gates of c and then those of d, on the same wires and bits, up to as many as there can be.
func TestCompose(t *testing.T) {
	s := from(2)
	for i := range 200 {
		wires, bits := 1+i%5, i%3
		c, d := s.circuit(wires, bits, s.Intn(61), 9), s.circuit(wires, bits, s.Intn(61), 9)
		got, e := Compose(c, d)
		wantCircuit(t, i, got, e, circuit(wires, bits, slices.Concat(c.Gates, d.Gates)...), api.OK)
		for _, d := range []api.Circuit{s.circuit(wires+1, bits, 3, 1), s.circuit(wires, bits+1, 3, 1), s.circuit(wires+1, bits+1, 120, 1)} {
			got, e := Compose(c, d)
			wantCircuit(t, i, got, e, api.Circuit{}, api.ErrClash)
			got, e = Compose(d, c)
			wantCircuit(t, i, got, e, api.Circuit{}, api.ErrClash)
		}
	}
	for n := range api.MaxGates + 1 {
		c := s.circuit(3, 2, n, 9)
		got, e := Compose(c, s.circuit(3, 2, api.MaxGates-n, 9))
		want(t, n, len(got.Gates), e, api.MaxGates, api.OK)
		got, e = Compose(c, s.circuit(3, 2, min(api.MaxGates, api.MaxGates+1-n), 9))
		if n > 0 {
			wantCircuit(t, n, got, e, api.Circuit{}, api.ErrMany)
		}
	}
	got, e := Compose(three(), three())
	wantCircuit(t, "no gates", got, e, three(), api.OK)
}

// P4.2: each gate of a plain circuit is undone, the last one first.
func TestInverse(t *testing.T) {
	got, e := Inverse(three(on(api.S, 0), on(api.T, 1)))
	wantCircuit(t, "example 5", got, e, three(on(api.Td, 1), on(api.Sd, 0)), api.OK)
	all := three(on(api.X, 0), on(api.Y, 1), on(api.Z, 2), on(api.H, 0), on(api.S, 1), on(api.Sd, 2), on(api.T, 0), on(api.Td, 1), on(api.CX, 2, 0), on(api.CZ, 2, 1), on(api.Swap, 1, 0), on(api.CCX, 2, 0, 1))
	back := three(on(api.CCX, 2, 0, 1), on(api.Swap, 1, 0), on(api.CZ, 2, 1), on(api.CX, 2, 0), on(api.T, 1), on(api.Td, 0), on(api.S, 2), on(api.Sd, 1), on(api.H, 0), on(api.Z, 2), on(api.Y, 1), on(api.X, 0))
	got, e = Inverse(all)
	wantCircuit(t, "all kinds", got, e, back, api.OK)
	got, e = Inverse(circuit(12, 8))
	wantCircuit(t, "no gates", got, e, circuit(12, 8), api.OK)
	for _, g := range []api.Gate{look(0, 1), on(api.Reset, 2), when(1, api.X, 0), when(2, api.CCX, 0, 1, 2)} {
		for at := range len(all.Gates) + 1 {
			got, e := Inverse(three(slices.Insert(slices.Clone(all.Gates), at, g)...))
			wantCircuit(t, g, got, e, api.Circuit{}, api.ErrClash)
		}
	}
}

// P4.2: the wire i becomes wires[i], and nothing else changes.
func TestRelabel(t *testing.T) {
	got, e := Relabel(circuit(2, 0, on(api.CX, 0, 1)), []int{1, 0})
	wantCircuit(t, "example 5", got, e, circuit(2, 0, on(api.CX, 1, 0)), api.OK)
	s := from(3)
	for i := range 200 {
		wires := 1 + i%12
		c, l := s.circuit(wires, i%3, 20, 9), s.Perm(wires)
		wanted := copyOf(c)
		for _, g := range wanted.Gates {
			for k, wire := range g.Wires {
				g.Wires[k] = l[wire]
			}
		}
		got, e := Relabel(c, l)
		wantCircuit(t, fmt.Sprint(c, l), got, e, wanted, api.OK)
	}
}

// P4.2: the errors of Relabel, number by number.
func TestRelabelWrong(t *testing.T) {
	c := three(on(api.CCX, 2, 1, 0), look(2, 1))
	for i, x := range []struct {
		l []int
		e api.Errno
	}{
		{nil, api.ErrMany}, {[]int{}, api.ErrMany}, {[]int{0, 1}, api.ErrMany}, {[]int{0, 1, 2, 3}, api.ErrMany}, {[]int{9, 9}, api.ErrMany}, {make([]int, 500), api.ErrMany},
		{[]int{0, 1, 3}, api.ErrNot}, {[]int{-1, 1, 0}, api.ErrNot}, {[]int{3, 3, 3}, api.ErrNot}, {[]int{0, greatest, 0}, api.ErrNot}, {[]int{smallest, 0, 0}, api.ErrNot}, {[]int{0, 12, 12}, api.ErrNot},
		{[]int{0, 0, 1}, api.ErrTwice}, {[]int{0, 1, 0}, api.ErrTwice}, {[]int{2, 1, 1}, api.ErrTwice}, {[]int{0, 0, 3}, api.ErrTwice}, {[]int{0, 0, -1}, api.ErrTwice}, {[]int{0, 3, 0}, api.ErrNot},
	} {
		got, e := Relabel(c, x.l)
		wantCircuit(t, i, got, e, api.Circuit{}, x.e)
	}
}

// P4.2: the same gates on so many wires and bits.
func TestWiden(t *testing.T) {
	for wires := 1; wires <= api.MaxWires; wires += 3 {
		for bits := 0; bits <= api.MaxBits; bits += 2 {
			c := circuit(wires, bits, on(api.H, wires-1), on(api.Reset, 0))
			for _, w := range []int{smallest, -1, 0, 1, 3, 4, 5, 7, 8, 10, 11, 12, 13, greatest} {
				for _, b := range []int{smallest, -1, 0, 1, 2, 3, 5, 6, 7, 8, 9, greatest} {
					got, e := Widen(c, w, b)
					if w < wires || w > 12 || b < bits || b > 8 {
						wantCircuit(t, fmt.Sprint(c, w, b), got, e, api.Circuit{}, api.ErrRange)
					} else {
						wantCircuit(t, fmt.Sprint(c, w, b), got, e, circuit(w, b, c.Gates...), api.OK)
					}
				}
			}
		}
	}
}

// P4.2: some gates, one after the other.
func TestSlice(t *testing.T) {
	s := from(4)
	for _, n := range []int{0, 1, 2, 7, api.MaxGates} {
		c := s.circuit(3, 2, n, 9)
		for _, from := range []int{smallest, -1, 0, 1, 2, 3, 6, 7, 8, 119, 120, 121, greatest} {
			for _, to := range []int{smallest, -1, 0, 1, 2, 3, 6, 7, 8, 119, 120, 121, greatest} {
				got, e := Slice(c, from, to)
				if from >= 0 && from <= to && to <= n {
					wantCircuit(t, fmt.Sprint(n, from, to), got, e, three(c.Gates[from:to]...), api.OK)
				} else {
					wantCircuit(t, fmt.Sprint(n, from, to), got, e, api.Circuit{}, api.ErrRange)
				}
			}
		}
	}
}

package circ

import (
	"fmt"
	"slices"
	"testing"

	"spoondrift/api"
)

// P4.4: which gates commute, as the chapter's examples say, and where its words have an edge.
func TestCommute(t *testing.T) {
	for i, x := range []struct {
		g, h   api.Gate
		wanted bool
	}{
		{on(api.T, 0), on(api.CX, 0, 1), true},
		{on(api.X, 1), on(api.CX, 0, 1), true},
		{on(api.T, 1), on(api.CX, 0, 1), false},
		{look(0, 0), on(api.T, 0), true},
		{look(0, 0), when(1, api.X, 1), false},
		{look(0, 0), when(2, api.X, 1), true},
		{look(0, 0), when(1, api.T, 0), false},
		{look(0, 0), when(2, api.T, 0), true},
		{look(0, 0), look(0, 0), false},
		{look(0, 0), look(0, 1), true},
		{look(0, 0), look(1, 0), false},
		{look(0, 0), on(api.Reset, 0), false},
		{on(api.Reset, 0), on(api.Reset, 0), false},
		{on(api.Reset, 0), on(api.Reset, 1), true},
		{on(api.Reset, 0), on(api.Z, 0), false},
		{on(api.Y, 0), on(api.Y, 0), true},
		{on(api.Y, 0), on(api.X, 0), false},
		{on(api.H, 0), on(api.H, 0), true},
		{on(api.CX, 0, 1), on(api.CX, 2, 1), true},
		{on(api.CX, 0, 1), on(api.CX, 1, 2), false},
		{on(api.CX, 0, 1), on(api.CX, 1, 0), false},
		{on(api.CX, 0, 1), on(api.CZ, 0, 1), false},
		{on(api.CCX, 0, 1, 2), on(api.CX, 1, 2), true},
		{on(api.CCX, 0, 1, 2), on(api.CX, 2, 1), false},
		{on(api.CCX, 0, 1, 2), on(api.CZ, 1, 0), true},
		{on(api.Swap, 0, 1), on(api.Swap, 1, 0), true},
		{on(api.Swap, 0, 1), on(api.CZ, 1, 0), true},
		{on(api.Swap, 0, 1), on(api.CZ, 1, 2), false},
		{on(api.Swap, 0, 1), on(api.Swap, 1, 2), false},
		{on(api.Swap, 0, 1), on(api.CX, 0, 1), false},
		{when(1, api.Swap, 0, 1), when(2, api.CZ, 1, 0), true},
		{when(1, api.X, 0), when(1, api.Z, 0), false},
		{when(1, api.X, 0), when(2, api.X, 0), true},
	} {
		is, e := Commute(three(x.g, on(api.H, 0), x.h), 0, 2)
		want(t, i, is, e, x.wanted, api.OK)
		is, e = Commute(three(x.g, on(api.H, 0), x.h), 2, 0)
		want(t, i, is, e, x.wanted, api.OK)
	}
}

// P4.4: which gates undo one another.
func TestUndo(t *testing.T) {
	for i, x := range []struct {
		g, h   api.Gate
		wanted bool
	}{
		{on(api.S, 0), on(api.Sd, 0), true},
		{on(api.S, 0), on(api.S, 0), false},
		{on(api.S, 0), on(api.Sd, 1), false},
		{on(api.T, 0), on(api.Td, 0), true},
		{on(api.T, 0), on(api.Sd, 0), false},
		{on(api.Td, 0), on(api.Td, 0), false},
		{on(api.H, 0), on(api.H, 0), true},
		{on(api.X, 0), on(api.Y, 0), false},
		{on(api.CX, 0, 1), on(api.CX, 0, 1), true},
		{on(api.CX, 0, 1), on(api.CX, 1, 0), false},
		{on(api.CZ, 0, 1), on(api.CZ, 1, 0), true},
		{on(api.CZ, 0, 1), on(api.CZ, 0, 2), false},
		{on(api.Swap, 0, 1), on(api.Swap, 1, 0), true},
		{on(api.Swap, 0, 1), on(api.CZ, 0, 1), false},
		{on(api.CCX, 0, 1, 2), on(api.CCX, 1, 0, 2), true},
		{on(api.CCX, 0, 1, 2), on(api.CCX, 0, 2, 1), false},
		{on(api.CCX, 0, 1, 2), on(api.CCX, 2, 1, 0), false},
		{when(1, api.X, 0), when(1, api.X, 0), true},
		{when(1, api.X, 0), when(2, api.X, 0), false},
		{when(1, api.X, 0), on(api.X, 0), false},
		{look(0, 0), look(0, 0), false},
		{on(api.Reset, 0), on(api.Reset, 0), false},
	} {
		is, e := Undo(three(x.g, on(api.H, 0), x.h), 0, 2)
		want(t, i, is, e, x.wanted, api.OK)
		is, e = Undo(three(x.g, on(api.H, 0), x.h), 2, 0)
		want(t, i, is, e, x.wanted, api.OK)
	}
}

// P4.4: all pairs of gates on three wires and two bits, a gate and itself among them, against the words of the chapter.
func TestAllPairs(t *testing.T) {
	all := allGates(3, 2)
	for i, g := range all {
		for j, h := range all {
			c := three(g, h)
			is, e := Commute(c, 0, 1)
			want(t, c, is, e, doCommute(g, h), api.OK)
			is, e = Undo(c, 0, 1)
			want(t, c, is, e, doUndo(g, h), api.OK)
			if i == j {
				is, e = Commute(c, 0, 0)
				want(t, c, is, e, doCommute(g, g), api.OK)
				is, e = Undo(c, 1, 1)
				want(t, c, is, e, doUndo(g, g), api.OK)
			}
		}
	}
}

// P4.4: numbers of gates that there are not.
func TestNoSuchGate(t *testing.T) {
	for n := range 4 {
		c := three(slices.Repeat([]api.Gate{on(api.X, 0)}, n)...)
		for _, i := range []int{smallest, -1, 0, 1, 2, 3, 4, greatest} {
			for _, j := range []int{smallest, -1, 0, 1, 2, 3, 4, greatest} {
				there, wanted := i >= 0 && i < n && j >= 0 && j < n, api.OK
				if !there {
					wanted = api.ErrNot
				}
				is, e := Commute(c, i, j)
				want(t, fmt.Sprint(n, i, j), is, e, there, wanted)
				is, e = Undo(c, i, j)
				want(t, fmt.Sprint(n, i, j), is, e, there, wanted)
			}
		}
	}
}

// P4.4: Tidy, as the chapter's examples say, and by all that the order of gates looks at.
func TestTidy(t *testing.T) {
	for i, x := range []struct{ c, wanted api.Circuit }{
		{three(), three()},
		{three(on(api.T, 1), on(api.X, 0)), three(on(api.X, 0), on(api.T, 1))},
		{three(on(api.CX, 0, 1), on(api.T, 0), on(api.H, 0)), three(on(api.T, 0), on(api.CX, 0, 1), on(api.H, 0))},
		{three(on(api.X, 2), on(api.X, 0), on(api.X, 1)), three(on(api.X, 0), on(api.X, 1), on(api.X, 2))},
		{three(on(api.CX, 1, 2), on(api.CX, 0, 2)), three(on(api.CX, 0, 2), on(api.CX, 1, 2))},
		{three(on(api.CX, 0, 2), on(api.CX, 0, 1)), three(on(api.CX, 0, 1), on(api.CX, 0, 2))},
		{three(on(api.CZ, 1, 0), on(api.CZ, 0, 1)), three(on(api.CZ, 0, 1), on(api.CZ, 1, 0))},
		{three(look(0, 1), look(0, 0)), three(look(0, 0), look(0, 1))},
		{three(look(1, 0), look(0, 0)), three(look(1, 0), look(0, 0))},
		{three(when(2, api.X, 0), when(1, api.X, 0), on(api.X, 0)), three(on(api.X, 0), when(1, api.X, 0), when(2, api.X, 0))},
		{three(when(2, api.X, 0), when(1, api.X, 1)), three(when(2, api.X, 0), when(1, api.X, 1))},
		{three(on(api.Reset, 0), on(api.H, 1), look(2, 1), on(api.H, 1)), three(on(api.H, 1), on(api.H, 1), look(2, 1), on(api.Reset, 0))},
	} {
		got, e := Tidy(x.c)
		wantCircuit(t, i, got, e, x.wanted, api.OK)
	}
}

// P4.4: Tidy and Equal of many circuits, against the words of the chapter.
func TestTidyOfMany(t *testing.T) {
	s := from(7)
	for i := range 2000 {
		wires, bits := 1+i%4, i%3
		c, d := s.circuit(wires, bits, s.Intn(24), 5), s.circuit(wires, bits, s.Intn(4), 2)
		got, e := Tidy(c)
		wantCircuit(t, c, got, e, tidyOf(c), api.OK)
		is, e := Equal(c, got)
		want(t, c, is, e, true, api.OK)
		other := s.circuit(wires, bits, s.Intn(4), 2)
		is, e = Equal(d, other)
		want(t, fmt.Sprint(d, other), is, e, textOf(tidyOf(d)) == textOf(tidyOf(other)), api.OK)
	}
	for i := range 20 {
		c := s.circuit(3+i%10, i%9, api.MaxGates, api.MaxGates)
		got, e := Tidy(c)
		wantCircuit(t, c, got, e, tidyOf(c), api.OK)
	}
}

// P4.4: Equal compares wires and bits, too, and gates that are not the same are not, even if they do the same.
func TestEqual(t *testing.T) {
	c := three(on(api.CZ, 0, 1), on(api.H, 2))
	for i, x := range []struct {
		d      api.Circuit
		wanted bool
	}{
		{c, true},
		{three(on(api.H, 2), on(api.CZ, 0, 1)), true},
		{three(on(api.H, 2), on(api.CZ, 1, 0)), false},
		{three(on(api.H, 2)), false},
		{three(on(api.H, 2), on(api.CZ, 0, 1), on(api.X, 0), on(api.X, 0)), false},
		{circuit(4, 2, c.Gates...), false},
		{circuit(3, 3, c.Gates...), false},
	} {
		is, e := Equal(c, x.d)
		want(t, i, is, e, x.wanted, api.OK)
		is, e = Equal(x.d, c)
		want(t, i, is, e, x.wanted, api.OK)
	}
}

// P4.5: Cancel, as the chapter's examples say, and what it must not pass.
func TestCancel(t *testing.T) {
	for i, x := range []struct{ c, wanted api.Circuit }{
		{three(), three()},
		{three(on(api.CX, 0, 1), on(api.T, 0), on(api.CX, 0, 1)), three(on(api.T, 0))},
		{three(on(api.X, 0), on(api.H, 0), on(api.X, 0)), three(on(api.X, 0), on(api.H, 0), on(api.X, 0))},
		{three(on(api.X, 0), on(api.H, 0), on(api.H, 0), on(api.X, 0)), three()},
		{three(on(api.Z, 0), on(api.Z, 0), on(api.Z, 0)), three(on(api.Z, 0))},
		{three(on(api.T, 0), on(api.T, 0), on(api.Td, 0)), three(on(api.T, 0))},
		{three(on(api.CZ, 0, 1), on(api.T, 1), on(api.CZ, 1, 0)), three(on(api.T, 1))},
		{three(on(api.CZ, 0, 1), on(api.CZ, 1, 0), on(api.CZ, 0, 1)), three(on(api.CZ, 0, 1))},
		{three(on(api.CZ, 0, 1), on(api.Z, 0), on(api.CZ, 0, 2), on(api.CZ, 1, 0)), three(on(api.Z, 0), on(api.CZ, 0, 2))},
		{three(when(1, api.X, 0), look(1, 0), when(1, api.X, 0)), three(when(1, api.X, 0), look(1, 0), when(1, api.X, 0))},
		{three(when(1, api.X, 0), look(1, 1), when(1, api.X, 0)), three(look(1, 1))},
		{three(on(api.X, 0), when(1, api.X, 0), on(api.X, 0)), three(when(1, api.X, 0))},
		{three(on(api.Z, 0), look(0, 0), on(api.Z, 0)), three(look(0, 0))},
		{three(on(api.X, 0), look(0, 0), on(api.X, 0)), three(on(api.X, 0), look(0, 0), on(api.X, 0))},
		{three(look(0, 0), look(0, 0)), three(look(0, 0), look(0, 0))},
		{three(on(api.Reset, 0), on(api.Reset, 0)), three(on(api.Reset, 0), on(api.Reset, 0))},
		{three(on(api.Swap, 0, 1), on(api.CZ, 0, 1), on(api.Swap, 1, 0)), three(on(api.CZ, 0, 1))},
	} {
		got, e := Cancel(x.c)
		wantCircuit(t, i, got, e, x.wanted, api.OK)
	}
	// Of two gates that can be taken out, the last one is.
	got, e := Cancel(three(on(api.CZ, 0, 1), on(api.H, 2), on(api.CZ, 1, 0), on(api.H, 2), on(api.T, 0), on(api.T, 1)))
	wantCircuit(t, "last first", got, e, three(on(api.T, 0), on(api.T, 1)), api.OK)
	got, e = Cancel(three(on(api.S, 0), on(api.H, 1), on(api.S, 0), on(api.T, 0), on(api.Sd, 0)))
	wantCircuit(t, "last first", got, e, three(on(api.S, 0), on(api.H, 1), on(api.T, 0)), api.OK)
}

// P4.5: Cancel of many circuits, against the words of the chapter.
func TestCancelOfMany(t *testing.T) {
	s := from(8)
	for i := range 2000 {
		c := s.circuit(1+i%4, i%3, s.Intn(24), 5)
		got, e := Cancel(c)
		wantCircuit(t, c, got, e, cancelOf(c), api.OK)
	}
	for i := range 40 {
		c := s.circuit(3+i%10, i%9, api.MaxGates, api.MaxGates)
		got, e := Cancel(c)
		wantCircuit(t, c, got, e, cancelOf(c), api.OK)
	}
}

package text

import (
	"slices"
	"strings"
	"testing"

	"spoondrift/api"
	"spoondrift/circ"
)

// P5.2: the one form of a circuit's text.
func TestPrint(t *testing.T) {
	for _, x := range []struct {
		c api.Circuit
		s string
	}{
		{circuit(1, 0), "wires 1;\n"},
		{api.Circuit{Wires: 3, Gates: []api.Gate{}}, "wires 3;\n"},
		{circuit(3, 2), "wires 3 bits 2;\n"},
		{circuit(12, 8), "wires 12 bits 8;\n"},
		{circuit(2, 1, on(api.H, 0), on(api.CX, 0, 1), look(1, 0), when(1, api.X, 0)), "wires 2 bits 1;\nh 0;\ncx 0 1;\nmeasure 1 0;\nif 0: x 0;\n"},
		{circuit(12, 8, when(8, api.CCX, 11, 0, 10), look(11, 7), on(api.Reset, 10)), "wires 12 bits 8;\nif 7: ccx 11 0 10;\nmeasure 11 7;\nreset 10;\n"},
		{circuit(2, 0, on(api.X, 1), on(api.Y, 1), on(api.Z, 1), on(api.S, 1), on(api.Sd, 1), on(api.T, 1), on(api.Td, 1), on(api.CZ, 1, 0), on(api.Swap, 1, 0)), "wires 2;\nx 1;\ny 1;\nz 1;\ns 1;\nsd 1;\nt 1;\ntd 1;\ncz 1 0;\nswap 1 0;\n"},
	} {
		if s, e := Print(x.c); s != x.s || e != api.OK {
			t.Errorf("%v: %q, error %d; want %q", x.c, s, e, x.s)
		}
	}
	s := from(2)
	for range 500 {
		c := s.circuit(api.MaxGates)
		if got, e := Print(c); got != strings.Join(lines(c), "\n")+"\n" || e != api.OK {
			t.Errorf("%v: %q, error %d", c, got, e)
		}
	}
}

// P5.2: Print has the errors of circ.Check, and then no text.
func TestPrintErrors(t *testing.T) {
	many := slices.Repeat([]api.Gate{on(api.X, 0)}, api.MaxGates+1)
	l := []api.Circuit{
		{}, circuit(0, 0), circuit(13, 0), circuit(1, -1), circuit(1, 9), circuit(1, 0, many...), circuit(13, 0, many...), circuit(3, 2, on(api.H, 3)),
		circuit(3, 2, on(api.CX, 1, 1)), circuit(3, 2, when(3, api.X, 0)), circuit(3, 2, look(0, 2)), circuit(3, 2, on(api.H, 0), on(99, 0)),
	}
	for _, gates := range wrongGates() {
		for _, g := range gates {
			l = append(l, circuit(3, 2, g), circuit(3, 2, on(api.H, 0), g))
		}
	}
	for _, c := range l {
		wanted := circ.Check(c)
		if s, e := Print(c); s != "" || e != wanted || e == api.OK {
			t.Errorf("%v: %q, error %d; want error %d", c, s, e, wanted)
		}
	}
}

// P5.2: the lines of gates, whatever circuit they are for.
func TestShow(t *testing.T) {
	for _, x := range []struct {
		g api.Gate
		s string
	}{
		{on(api.H, 0), "h 0;"}, {on(api.Sd, 999), "sd 999;"}, {on(api.CX, 4, 4), "cx 4 4;"}, {on(api.CCX, 999, 999, 999), "ccx 999 999 999;"},
		{when(1, api.X, 0), "if 0: x 0;"}, {when(1000, api.CCX, 5, 999, 0), "if 999: ccx 5 999 0;"}, {when(10, api.Swap, 10, 100), "if 9: swap 10 100;"},
		{look(3, 7), "measure 3 7;"}, {look(999, 999), "measure 999 999;"}, {look(0, 0), "measure 0 0;"}, {on(api.Reset, 999), "reset 999;"},
	} {
		if s, e := Show(x.g); s != x.s || e != api.OK {
			t.Errorf("%v: %q, error %d; want %q", x.g, s, e, x.s)
		}
	}
	s := from(3)
	for kind := api.X; kind <= api.Reset; kind++ {
		for range 20 {
			g := on(kind, slices.Repeat([]int{s.Intn(1000)}, arities[kind])...)
			if kind == api.Measure {
				g.Bit = s.Intn(1000)
			} else if kind != api.Reset {
				g.If = s.Intn(1001)
			}
			if got, e := Show(g); got != lineOf(g) || e != api.OK {
				t.Errorf("%v: %q, error %d", g, got, e)
			}
		}
	}
	for wanted, gates := range wrongGates() {
		for _, g := range gates {
			if s, e := Show(g); s != "" || e != wanted {
				t.Errorf("%v: %q, error %d; want error %d", g, s, e, wanted)
			}
		}
	}
}

// R4: neither gates, nor their wires, nor what is behind these are changed by printing, and gates that are read have wires of their own.
func TestMemory(t *testing.T) {
	room := []int{2, 9, 9}
	c := circuit(3, 1, api.Gate{Kind: api.Measure, Wires: room[:1]}, when(1, api.CX, 2, 1))
	s := must(Print(c))
	must(Show(c.Gates[0]))
	if !slices.Equal(room, []int{2, 9, 9}) || s != must(Print(c)) {
		t.Error(room, c)
	}
	c = parsed(s)
	other := parsed(s)
	for i := range c.Gates {
		before := must(Show(c.Gates[1-i]))
		for k := range c.Gates[i].Wires {
			c.Gates[i].Wires[k] += 100
		}
		_ = append(c.Gates[i].Wires, 7, 7, 7)
		if after := must(Show(c.Gates[1-i])); after != before {
			t.Error(before, after)
		}
	}
	if must(Print(other)) != s {
		t.Error(other)
	}
	l, _, _ := Tokens(s)
	l[0] = Token{}
	if l, _, _ = Tokens(s); l[0] != (Token{0, Word, "wires"}) {
		t.Error(l)
	}
}

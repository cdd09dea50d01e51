package circ

import (
	"fmt"
	"slices"
	"testing"

	"spoondrift/api"
)

// P4.1: right circuits, up to all limits.
func TestCheckRight(t *testing.T) {
	for _, x := range []struct{ wires, bits int }{{1, 0}, {1, 2}, {2, 1}, {3, 2}, {4, 1}} {
		for _, g := range allGates(x.wires, x.bits) {
			if e := Check(circuit(x.wires, x.bits, g)); e != api.OK {
				t.Error(x, g, e)
			}
		}
	}
	for i, c := range []api.Circuit{
		circuit(1, 0), {Wires: 1, Gates: []api.Gate{}}, circuit(12, 8), circuit(1, 8), circuit(12, 0),
		circuit(12, 8, look(11, 7), when(8, api.CCX, 11, 0, 5), on(api.Reset, 11)),
		three(slices.Repeat([]api.Gate{on(api.H, 2)}, api.MaxGates)...),
	} {
		if e := Check(c); e != api.OK {
			t.Error(i, e)
		}
	}
}

// P4.1: all errors of Check, and which one comes first: gate by gate.
func TestCheckWrong(t *testing.T) {
	for i, x := range wrongCircuits() {
		if e := Check(x.c); e != x.e {
			t.Error(i, x.c, e, x.e)
		}
	}
	for i, x := range wrongGates() {
		for j, y := range wrongGates() {
			if e := Check(three(on(api.X, 0), x.g, on(api.X, 0), y.g)); e != x.e {
				t.Error(i, j, e, x.e)
			}
		}
	}
}

// P4.1: all functions but Arity and Same return the error of Check first, and then nothing else (R2).
func TestErrorsOfCheckFirst(t *testing.T) {
	type rest struct {
		d    api.Circuit
		l    []int
		i, j int
	}
	for _, other := range []rest{
		{three(), []int{0, 1, 2}, 0, 0},
		{api.Circuit{}, nil, -1, 99},
		{circuit(12, 8, slices.Repeat([]api.Gate{look(0, 0)}, api.MaxGates)...), []int{9, 9, 9}, greatest, smallest},
	} {
		for i, x := range wrongCircuits() {
			for _, c := range calls(other.d, other.l, other.i, other.j) {
				if got, e := c.do(x.c); !isZero(got) || e != x.e {
					t.Error(c.name, i, got, e, x.e)
				}
			}
		}
	}
}

// P4.1: of two circuits that are not right, the first one has the error.
func TestFirstCircuitFirst(t *testing.T) {
	for i, x := range wrongCircuits() {
		for j, y := range wrongCircuits() {
			both, e := Compose(x.c, y.c)
			wantCircuit(t, fmt.Sprint(i, j), both, e, api.Circuit{}, x.e)
			is, e := Equal(x.c, y.c)
			want(t, fmt.Sprint(i, j), is, e, false, x.e)
		}
	}
}

// P4.1: the arities of all kinds, and 0 for what is no kind.
func TestArity(t *testing.T) {
	for kind, n := range arities {
		if got := Arity(kind); got != n {
			t.Error(kind, got, n)
		}
	}
	for _, kind := range []int{-1, 15, 16, 1000, greatest, smallest} {
		if got := Arity(kind); got != 0 {
			t.Error(kind, got)
		}
	}
}

// P4.1: a circuit is plain if all of its gates are.
func TestPlain(t *testing.T) {
	is, e := Plain(three())
	want(t, "no gates", is, e, true, api.OK)
	for _, g := range allGates(3, 2) {
		wanted := g.Kind != api.Measure && g.Kind != api.Reset && g.If == 0
		for _, c := range []api.Circuit{three(g), three(on(api.H, 0), g), three(g, on(api.CCX, 2, 1, 0))} {
			is, e := Plain(c)
			want(t, c, is, e, wanted, api.OK)
		}
	}
}

// P4.1: Same compares all of two circuits, whether they are right or not.
func TestSame(t *testing.T) {
	var all []api.Circuit
	for _, x := range wrongCircuits() {
		all = append(all, x.c)
	}
	for _, g := range allGates(2, 1) {
		all = append(all, three(g), circuit(2, 1, g), circuit(3, 1, g), three(g, g), three(on(api.H, 0), g), three(g, on(api.H, 0)))
	}
	for i, c := range all {
		for j, d := range all {
			if got := Same(c, copyOf(d)); got != (textOf(c) == textOf(d)) {
				t.Error(i, j, c, d, got)
			}
		}
	}
	if !Same(api.Circuit{}, api.Circuit{Gates: []api.Gate{}}) || !Same(three(on(0)), three(on(0, []int{}...))) {
		t.Error("nil and empty lists are the same")
	}
}

// R4: arguments stay as they are, and results have memory of their own.
func TestMemory(t *testing.T) {
	gates := []api.Gate{on(api.CCX, 2, 1, 0), on(api.S, 1), on(api.CX, 2, 0), on(api.CCX, 2, 1, 0), on(api.S, 1), on(api.T, 0)}
	c, l := three(slices.Grow(gates, 20)...), []int{2, 0, 1}
	for i := range c.Gates {
		c.Gates[i].Wires = slices.Grow(c.Gates[i].Wires, 5)
	}
	d := three(slices.Grow([]api.Gate{on(api.CZ, 2, 1)}, 5)...)
	before := []string{textOf(c), textOf(d), fmt.Sprint(l)}
	do := []func() (api.Circuit, api.Errno){
		func() (api.Circuit, api.Errno) { return Compose(c, d) },
		func() (api.Circuit, api.Errno) { return Compose(c, c) },
		func() (api.Circuit, api.Errno) { return Inverse(c) },
		func() (api.Circuit, api.Errno) { return Relabel(c, l) },
		func() (api.Circuit, api.Errno) { return Widen(c, 5, 5) },
		func() (api.Circuit, api.Errno) { return Slice(c, 1, 4) },
		func() (api.Circuit, api.Errno) { return Tidy(c) },
		func() (api.Circuit, api.Errno) { return Cancel(c) },
	}
	for i, f := range do {
		result := must(f())
		kept := copyOf(result)
		for k := range result.Gates {
			wires := result.Gates[k].Wires
			for m := range wires {
				wires[m] += 100
			}
			_ = append(wires, 7, 7, 7)
			for m := range kept.Gates {
				if own := m <= k; own == slices.Equal(result.Gates[m].Wires, kept.Gates[m].Wires) {
					t.Error(i, "gates", k, m, "share wires")
				}
			}
			result.Gates[k].Kind = 99
		}
		_ = append(result.Gates, on(98), on(98))
		if after := []string{textOf(c), textOf(d), fmt.Sprint(l)}; !slices.Equal(before, after) {
			t.Error(i, after)
		}
		wantCircuit(t, i, must(f()), api.OK, kept, api.OK)
	}
	for _, c := range calls(d, l, 0, 1) {
		c.do(three(gates...))
	}
	if after := []string{textOf(c), textOf(d), fmt.Sprint(l)}; !slices.Equal(before, after) {
		t.Error(after)
	}
}

// P0.1: every call ends, and none panics, whatever its arguments are.
func TestNoPanic(t *testing.T) {
	s := from(1)
	odd := []int{smallest, -2, -1, 0, 1, 2, 3, 7, 8, 9, 11, 12, 13, 14, 15, 119, 120, 121, greatest - 1, greatest}
	number := func() int {
		if s.Intn(3) == 0 {
			return odd[s.Intn(len(odd))]
		}
		return s.Intn(4)
	}
	numbers := func(n int) []int {
		l := make([]int, n)
		for i := range l {
			l[i] = number()
		}
		return l
	}
	some := func() api.Circuit {
		c := circuit(number(), number())
		for range s.Intn(4) {
			c.Gates = append(c.Gates, api.Gate{Kind: number(), Wires: numbers(s.Intn(4)), Bit: number(), If: number()})
		}
		return c
	}
	for range 20000 {
		c, d := some(), some()
		for _, f := range calls(d, numbers(s.Intn(14)), number(), number()) {
			if got, e := f.do(c); e != api.OK && !isZero(got) {
				t.Error(f.name, c, got, e)
			}
		}
		Same(c, d)
		Arity(number())
	}
}

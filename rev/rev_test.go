package rev

import (
	"slices"
	"testing"

	"spoondrift/api"
	"spoondrift/circ"
)

// wrongCircuits are circuits that are not classical, with their errors.
func wrongCircuits() []struct {
	c api.Circuit
	e api.Errno
} {
	three := func(gates ...api.Gate) api.Circuit { return api.Circuit{Wires: 3, Bits: 2, Gates: gates} }
	when := func(n, kind int, wires ...int) api.Gate { return api.Gate{Kind: kind, Wires: wires, If: n} }
	h := on(api.H, 0)
	many := slices.Repeat([]api.Gate{x(1)}, api.MaxGates+1)
	l := []struct {
		c api.Circuit
		e api.Errno
	}{
		{api.Circuit{}, api.ErrRange},
		{circuit(-1, h), api.ErrRange},
		{circuit(13), api.ErrRange},
		{circuit(greatest), api.ErrRange},
		{api.Circuit{Wires: 1, Bits: 9}, api.ErrRange},
		{api.Circuit{Wires: 1, Bits: -1, Gates: many}, api.ErrRange},
		{three(many...), api.ErrMany},
		{three(append([]api.Gate{h}, many...)...), api.ErrMany},
		{three(h, on(15, 0)), api.ErrRange},
		{three(on(0, 0)), api.ErrRange},
		{three(on(smallest, 0)), api.ErrRange},
		{three(h, on(api.X)), api.ErrMany},
		{three(on(api.CCX, 0, 1)), api.ErrMany},
		{three(on(api.Swap, 0, 1, 2)), api.ErrMany},
		{three(h, cx(0, 3)), api.ErrNot},
		{three(ccx(0, -1, 1)), api.ErrNot},
		{three(h, ccx(1, 2, 1)), api.ErrTwice},
		{three(swap(0, 0)), api.ErrTwice},
		{three(h, when(3, api.X, 0)), api.ErrNot},
		{three(when(-1, api.X, 0)), api.ErrNot},
		{three(h, on(api.Measure, 0), api.Gate{Kind: api.X, Wires: []int{0}, Bit: 1}), api.ErrClash},
		{three(on(api.Measure, 1)), api.ErrClash},
		{three(on(api.Reset, 1)), api.ErrClash},
		{three(x(0), swap(1, 2), on(api.CZ, 1, 0)), api.ErrClash},
		{three(on(api.CZ, 1, 0), x(0)), api.ErrClash},
	}
	for kind := api.Y; kind <= api.Td; kind++ {
		l = append(l, struct {
			c api.Circuit
			e api.Errno
		}{three(x(2), on(kind, 1), cx(0, 1)), api.ErrClash})
	}
	for _, g := range []api.Gate{when(1, api.X, 0), when(2, api.CX, 0, 1), when(1, api.Swap, 0, 1), when(2, api.CCX, 0, 1, 2)} {
		l = append(l, struct {
			c api.Circuit
			e api.Errno
		}{three(cx(1, 2), g), api.ErrClash})
	}
	return l
}

// P8.1: the error of Check comes first in all functions with circuits, whatever else is wrong, and with an error all
// other results are zero.
func TestWrongCircuits(t *testing.T) {
	for i, wrong := range wrongCircuits() {
		for _, other := range []api.Circuit{circuit(3), circuit(1), {}, circuit(1, on(api.H, 0)), circuit(1, cx(0, 1))} {
			for _, l := range [][]int{nil, {0}, {0, 0}, {99, 99}, make([]int, 13)} {
				for _, f := range circuitCalls(wrong.c, other, -1, l) {
					if got, e := f.do(); !isZero(got) || e != wrong.e {
						t.Error(i, f.name, got, e, wrong.e)
					}
				}
			}
		}
	}
}

// P8.1: classical circuits are right, with all their kinds, up to the limits; bits that no gate reads change nothing.
func TestCheck(t *testing.T) {
	s := from(1)
	for wires := 1; wires <= api.MaxWires; wires++ {
		for _, gates := range []int{0, 1, 7, api.MaxGates} {
			c := s.circuit(wires, gates)
			c.Bits = s.Intn(api.MaxBits + 1)
			if e := Check(c); e != api.OK {
				t.Error(c, e)
			}
		}
	}
	for _, g := range []api.Gate{x(0), cx(2, 0), swap(1, 2), ccx(2, 0, 1)} {
		if e := Check(circuit(3, g)); e != api.OK {
			t.Error(g, e)
		}
	}
}

// P8.1: what circuits make of states, and what is no state.
func TestApply(t *testing.T) {
	s := from(2)
	for i := range 240 {
		c := s.circuit(1+i%api.MaxWires, s.Intn(api.MaxGates+1))
		c.Bits = i % 9
		for _, state := range []int{0, 1, 1<<c.Wires - 1, s.Intn(1 << c.Wires)} {
			y, e := Apply(c, state)
			want(t, c, y, e, does(c, state), api.OK)
		}
		for _, state := range []int{smallest, -1, 1 << c.Wires, 1<<c.Wires + 1, 1 << 40, greatest} {
			y, e := Apply(c, state)
			want(t, c, y, e, 0, api.ErrRange)
		}
	}
}

// P8.1: tables of one gate of each kind on all wires, and of long circuits.
func TestTable(t *testing.T) {
	wantTable := func(c api.Circuit) {
		t.Helper()
		l, e := Table(c)
		want(t, c, l, e, tableIs(c), api.OK)
	}
	for wires := 1; wires <= 4; wires++ {
		wantTable(circuit(wires))
		for a := range wires {
			wantTable(circuit(wires, x(a)))
			for b := range wires {
				if a == b {
					continue
				}
				wantTable(circuit(wires, cx(a, b)))
				wantTable(circuit(wires, swap(a, b)))
				for k := range wires {
					if k != a && k != b {
						wantTable(circuit(wires, ccx(a, b, k)))
					}
				}
			}
		}
	}
	s := from(3)
	for i := range 48 {
		wantTable(s.circuit(1+i%api.MaxWires, s.Intn(api.MaxGates+1)))
	}
	wantTable(s.circuit(api.MaxWires, api.MaxGates))
	wantTable(api.Circuit{Wires: 2, Bits: 8, Gates: []api.Gate{}})
}

// P8.1: Same compares tables alone, and wants as many wires.
func TestSame(t *testing.T) {
	s := from(4)
	alike := 0
	for range 3000 {
		wires := 1 + s.Intn(3)
		c, d := s.circuit(wires, s.Intn(4)), s.circuit(wires, s.Intn(4))
		c.Bits = s.Intn(9)
		wanted := slices.Equal(tableIs(c), tableIs(d))
		if wanted {
			alike++
		}
		is, e := Same(c, d)
		want(t, []api.Circuit{c, d}, is, e, wanted, api.OK)
	}
	if alike < 100 {
		t.Error("few are the same:", alike)
	}
	for a := 1; a <= api.MaxWires; a++ {
		for b := 1; b <= api.MaxWires; b++ {
			is, e := Same(circuit(a), circuit(b))
			if a == b {
				want(t, a, is, e, true, api.OK)
			} else {
				want(t, []int{a, b}, is, e, false, api.ErrClash)
			}
		}
	}
	// The last state alone tells them apart.
	all := circuit(12, ccx(0, 1, 11), ccx(2, 3, 10), ccx(10, 11, 9))
	is, e := Same(all, must(circ.Compose(all, circuit(12, ccx(9, 10, 8)))))
	want(t, "last", is, e, false, api.OK)
}

// P8.1: of two wrong circuits the first one has the error.
func TestSameErrors(t *testing.T) {
	for _, c := range wrongCircuits() {
		for _, d := range wrongCircuits() {
			is, e := Same(c.c, d.c)
			want(t, c, is, e, false, c.e)
		}
	}
}

// P0.1: every call ends, and none panics, whatever its arguments are; with an error all other results are zero.
func TestNoPanic(t *testing.T) {
	s := from(5)
	odd := []int{smallest, -2, -1, 5, 7, 8, 11, 12, 13, 15, 16, 24, 63, 64, 4095, 4096, greatest - 1, greatest}
	number := func() int {
		if s.Intn(9) == 0 {
			return odd[s.Intn(len(odd))]
		}
		return s.Intn(4)
	}
	numbers := func(n int) []int {
		l := make([]int, n)
		for i := range l {
			l[i] = number()
		}
		return l
	}
	some := func() api.Circuit {
		c := api.Circuit{Wires: number(), Bits: number()}
		for range s.Intn(4) {
			kind := []int{api.X, api.CX, api.Swap, api.CCX, number()}[s.Intn(5)]
			c.Gates = append(c.Gates, api.Gate{Kind: kind, Wires: numbers(s.Intn(5)), Bit: number() / 3, If: number() / 3})
		}
		return c
	}
	var expression func(depth int) api.Bool
	expression = func(depth int) api.Bool {
		e := api.Bool{Kind: 2*number() + s.Intn(2), Var: number() / 2}
		for range s.Intn(depth) {
			e.Args = append(e.Args, expression(depth-1))
		}
		return e
	}
	for range 20000 {
		calls := circuitCalls(some(), some(), number(), numbers(s.Intn(4)))
		calls = append(calls, permutationCalls(numbers([]int{2, 4, 8, s.Intn(17)}[s.Intn(4)]), number()/2)...)
		calls = append(calls, boolCalls(expression(4), number(), number())...)
		for _, f := range calls {
			if got, e := f.do(); e != api.OK && !isZero(got) {
				t.Error(f.name, got, e)
			}
		}
	}
	for _, wires := range odd {
		for _, gates := range odd {
			if got, e := Count(wires, gates); got != 0 || e == api.OK {
				t.Error(wires, gates, got, e)
			}
		}
	}
}

// R4: arguments stay as they are, and results share no memory with them or with one another.
func TestMemory(t *testing.T) {
	c := circuit(3, slices.Grow([]api.Gate{cx(0, 1), x(0), cx(0, 1), swap(2, 1), ccx(2, 0, 1)}, 9)...)
	outs := slices.Grow([]int{2, 0, 2}, 9)
	p := slices.Grow([]int{6, 1, 7, 2, 0, 5, 4, 3}, 9)
	short := slices.Grow([]int{0, 2, 1, 3}, 9)
	part := of(And, v(0), of(Or, v(1), of(Yes)))
	e := of(Xor, of(And, part, of(Not, v(1))), part)
	before := textOf([]any{c, outs, p, short, e})
	results := func() ([]api.Circuit, [][]int) {
		circuits := []api.Circuit{must(Keep(c, outs)), must(Keep(c, nil)), must(Circuit(p)), must(Shortest(short, 4)), must(Compile(e, 2))}
		return circuits, append(must(Cycles(p)), must(Table(c)))
	}
	circuits, lists := results()
	wanted := textOf([]any{circuits, lists})
	spoil := func(l []int) {
		for i := range l[:cap(l)] {
			l[:cap(l)][i] = -77
		}
	}
	for i, d := range circuits {
		for k, g := range d.Gates {
			spoil(g.Wires)
			for _, h := range d.Gates[k+1:] {
				if slices.Contains(h.Wires, -77) {
					t.Fatal(i, "two gates share their wires")
				}
			}
			d.Gates[k].Wires = nil
		}
		_ = append(d.Gates, on(99), on(99))
	}
	for i, l := range lists {
		spoil(l)
		for _, next := range lists[i+1:] {
			if slices.Contains(next, -77) {
				t.Error(i, "two lists share their numbers")
			}
		}
	}
	calls := append(circuitCalls(c, c, 5, outs[:2]), permutationCalls(p, 4)...)
	for _, f := range append(calls, boolCalls(e, 2, 3)...) {
		f.do()
	}
	circuits, lists = results()
	if got := textOf([]any{circuits, lists}); got != wanted {
		t.Error(got, wanted)
	}
	if after := textOf([]any{c, outs, p, short, e}); after != before {
		t.Error(after, before)
	}
}

// The five examples of the chapter.
func TestExamples(t *testing.T) {
	l, e := Table(circuit(2, cx(0, 1)))
	want(t, "Table", l, e, []int{0, 3, 2, 1}, api.OK)
	l, e = Table(circuit(2, swap(0, 1)))
	want(t, "Table", l, e, []int{0, 2, 1, 3}, api.OK)
	y, e := Apply(circuit(3, ccx(0, 1, 2)), 3)
	want(t, "Apply", y, e, 7, api.OK)
	c, e := Circuit([]int{0, 3, 2, 1})
	want(t, "Circuit", c, e, circuit(2, cx(0, 1)), api.OK)
	c, e = Circuit([]int{1, 0})
	want(t, "Circuit", c, e, circuit(1, x(0)), api.OK)
	exchanged := []int{0, 2, 1, 3}
	c, e = Circuit(exchanged)
	want(t, "Circuit", c, e, circuit(2, cx(1, 0), cx(0, 1), cx(1, 0)), api.OK)
	cycles, e := Cycles(exchanged)
	want(t, "Cycles", cycles, e, [][]int{{1, 2}}, api.OK)
	is, e := Even(exchanged)
	want(t, "Even", is, e, false, api.OK)
	for gates, wanted := range []int{1, 12, 102} {
		count, e := Count(3, gates)
		want(t, gates, count, e, wanted, api.OK)
	}
	c, e = Shortest(exchanged, 2)
	want(t, "Shortest", c, e, api.Circuit{}, api.ErrNone)
	c, e = Shortest(exchanged, 3)
	want(t, "Shortest", []any{c.Wires, len(c.Gates), tableIs(c)}, e, []any{2, 3, exchanged}, api.OK)
	c, e = Compile(of(And, v(0), v(1)), 2)
	want(t, "Compile", c, e, circuit(3, ccx(0, 1, 2)), api.OK)
	c, e = Compile(of(Or, v(0), v(1)), 2)
	want(t, "Compile", c, e, circuit(5, cx(0, 3), x(3), cx(1, 4), x(4), ccx(3, 4, 2), x(4), cx(1, 4), x(3), cx(0, 3), x(2)), api.OK)
	y, e = Clean(circuit(2, cx(0, 1)), []int{1})
	want(t, "Clean", y, e, 1, api.OK)
	y, e = Borrowed(circuit(2, cx(0, 1)), []int{0})
	want(t, "Borrowed", y, e, 1, api.OK)
	y, e = Borrowed(circuit(2, cx(0, 1), cx(0, 1)), []int{0})
	want(t, "Borrowed", y, e, 0, api.ErrNone)
}

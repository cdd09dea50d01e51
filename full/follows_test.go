package full

import (
	"slices"
	"testing"

	"spoondrift/api"
	"spoondrift/circ"
	"spoondrift/matrix"
	"spoondrift/ring"
)

// P6.5: the norms of all branches together are the norm of the state at the beginning; so are those of Bits.
func TestNormsOfBranches(t *testing.T) {
	s := from(20)
	for i := range 300 {
		n := 1 + i%5
		c, v := s.circuit(n, i%4, s.Intn(30), 5), s.state(n, 20)
		sum := whole(0)
		for _, b := range must(Run(c, v)) {
			sum = must(ring.Add(sum, must(Norm(b.State))))
		}
		norm, e := Norm(v)
		want(t, c, sum, api.OK, norm, e)
		bits, e := ring.Sum(must(Bits(c, v)))
		want(t, c, bits, e, norm, api.OK)
	}
}

// P6.5: a branch along its outcomes is the one that Run returns, and along all others there is none.
func TestAlongIsRun(t *testing.T) {
	s := from(21)
	for i := range 200 {
		n := 1 + i%5
		c, v := s.circuit(n, 1+i%4, s.Intn(30), 5), must(Basis(n, s.Intn(1<<n)))
		l := must(Run(c, v))
		for _, outcomes := range lists(finds(c)) {
			own := func(b Branch) bool { return slices.Equal(b.Outcomes, outcomes) }
			got, e := Along(c, v, outcomes)
			if k := slices.IndexFunc(l, own); k >= 0 {
				wantBranches(t, c, []Branch{got}, e, l[k:k+1], api.OK)
			} else {
				wantBranches(t, c, []Branch{got}, e, []Branch{{}}, api.ErrNone)
			}
		}
	}
}

// P6.5: the state after a plain circuit is its operator applied to the state; amplitudes are the elements of the
// operator, which is unitary.
func TestOperatorOfRuns(t *testing.T) {
	s := from(22)
	for i := range 100 {
		n := 1 + i%5
		c, v := s.plain(n, s.Intn(30)), s.state(n, 20)
		m := must(Matrix(c))
		l, e := Run(c, v)
		wantBranches(t, c, l, e, []Branch{branch(0, must(matrix.Apply(m, v)))}, api.OK)
		is, e := matrix.Unitary(m)
		want(t, c, is, e, true, api.OK)
		for in := range m {
			for out := range m {
				if n < 4 {
					got, e := Amplitude(c, in, out)
					want(t, c, got, e, m[out][in], api.OK)
				}
			}
		}
	}
}

// P6.5: the operator of two circuits, one after the other, is the product of theirs; that of the Inverse is the Dagger.
func TestOperatorsOfCompose(t *testing.T) {
	s := from(23)
	for i := range 100 {
		c, d := s.plain(1+i%4, s.Intn(20)), s.plain(1+i%4, s.Intn(20))
		got, e := Matrix(must(circ.Compose(c, d)))
		wantMatrix(t, c, got, e, must(matrix.Mul(must(Matrix(d)), must(Matrix(c)))), api.OK)
		got, e = Matrix(must(circ.Inverse(c)))
		wantMatrix(t, c, got, e, must(matrix.Dagger(must(Matrix(c)))), api.OK)
	}
}

// P6.5: a gate does not change the norm, and its inverse afterwards gives the state again.
func TestGatesAndInverses(t *testing.T) {
	s := from(24)
	for n := 1; n <= 4; n++ {
		for _, g := range allGates(n) {
			v := must(Find(s.state(n, 40), s.Intn(n), s.Intn(2)))
			after := must(Apply(v, g))
			norm, e := Norm(after)
			want(t, g, norm, e, must(Norm(v)), api.OK)
			back := must(circ.Inverse(circuit(n, 0, g))).Gates[0]
			again, e := Apply(after, back)
			wantState(t, g, again, e, v, api.OK)
		}
	}
}

// P6.5: what is found is found again: the other outcome is dead, and both together are the state.
func TestFoundAgain(t *testing.T) {
	s := from(25)
	for i := range 200 {
		n := 1 + i%6
		v, wire := s.state(n, 40), s.Intn(n)
		both := make([]api.Num, len(v))
		for outcome := range 2 {
			found := must(Find(v, wire, outcome))
			again, e := Find(found, wire, outcome)
			wantState(t, v, again, e, found, api.OK)
			other, e := Find(found, wire, 1-outcome)
			wantState(t, v, other, e, make([]api.Num, len(v)), api.OK)
			for k, x := range found {
				both[k] = must(ring.Add(both[k], x))
			}
			odds, e := Odds(found, wire)
			if outcome == 1 {
				want(t, v, odds, e, must(Odds(v, wire)), api.OK)
			} else {
				want(t, v, odds, e, whole(0), api.OK)
			}
		}
		phase, e := Phase(both, v)
		want(t, v, phase, e, 0, api.OK)
	}
	// Twice the same Measure finds the same; after a Reset, 0 is found.
	for i := range 60 {
		n := 1 + i%4
		c := s.circuit(n, 2, 15, 2)
		c.Gates = append(c.Gates, look(0, 0), look(0, 1), on(api.Reset, 0), on(api.Reset, 0))
		for _, b := range must(Run(c, s.state(n, 9))) {
			last := b.Outcomes[len(b.Outcomes)-4:]
			if last[0] != last[1] || last[0] != last[2] || last[3] != 0 || b.Bits&1 != b.Bits>>1&1 {
				t.Error(c, b)
			}
		}
	}
}

// P6.5: gates on different wires can be exchanged, those that find something too.
func TestExchanged(t *testing.T) {
	s := from(26)
	for i := range 300 {
		n := 2 + i%4
		v := s.state(n, 40)
		g, h := s.gate(n, 0, false), s.gate(n, 0, false)
		shared := func(wire int) bool { return slices.Contains(h.Wires, wire) }
		if slices.ContainsFunc(g.Wires, shared) {
			continue
		}
		wanted := must(Apply(must(Apply(v, h)), g))
		got, e := Apply(must(Apply(v, g)), h)
		wantState(t, []api.Gate{g, h}, got, e, wanted, api.OK)
		for wire := range n {
			if slices.Contains(g.Wires, wire) {
				continue
			}
			for outcome := range 2 {
				wanted := must(Apply(must(Find(v, wire, outcome)), g))
				got, e := Find(must(Apply(v, g)), wire, outcome)
				wantState(t, g, got, e, wanted, api.OK)
			}
		}
	}
}

// P4.6, with exact numbers: Tidy and Cancel keep the branches of circuits, up to the order of outcomes.
func TestCircuitsTidied(t *testing.T) {
	s := from(27)
	texts := func(c api.Circuit, v []api.Num) []string {
		var l []string
		for _, b := range must(Run(c, v)) {
			slices.Sort(b.Outcomes)
			l = append(l, textOf(b))
		}
		return slices.Sorted(slices.Values(l))
	}
	for i := range 200 {
		n := 1 + i%4
		c, v := s.circuit(n, i%4, s.Intn(25), 4), s.state(n, 9)
		for _, d := range []api.Circuit{must(circ.Tidy(c)), must(circ.Cancel(c))} {
			if !slices.Equal(texts(c, v), texts(d, v)) {
				t.Error(c, d)
			}
		}
	}
}

// wild makes arguments of any kind, many of them near to right ones.
type wild struct{ source }

// integer is any integer.
func (s wild) integer() int {
	switch s.Intn(6) {
	case 0:
		return []int{greatest, smallest, -1, 63, 64, 12, 1 << 30}[s.Intn(7)]
	case 1:
		return int(s.Uint64())
	}
	return s.Intn(9)
}

// numbers is a list of any numbers, or a right state.
func (s wild) numbers() []api.Num {
	if s.Intn(3) > 0 {
		return s.state(s.Intn(4), 1<<s.Intn(29))
	}
	v := make([]api.Num, s.Intn(70))
	for k := range v {
		v[k] = num(s.integer(), s.integer(), s.integer(), s.integer(), s.integer())
	}
	return v
}

// anyCircuit is a circuit that is right, or almost, or not at all.
func (s wild) anyCircuit() api.Circuit {
	c := copyOf(s.circuit(1+s.Intn(4), s.Intn(4), s.Intn(20), s.Intn(10)))
	for range s.Intn(3) {
		if len(c.Gates) == 0 || s.Intn(4) == 0 {
			return circuit(s.integer(), s.integer(), c.Gates...)
		}
		g := &c.Gates[s.Intn(len(c.Gates))]
		switch s.Intn(4) {
		case 0:
			g.Kind = s.integer()
		case 1:
			g.Wires = append(g.Wires, s.integer())
		case 2:
			g.Wires[0] = s.integer()
		default:
			g.Bit, g.If = s.integer(), s.integer()
		}
	}
	return c
}

// P0.1, and R2: no call panics, whatever its arguments are, and with an error its result is zero.
func TestAnyArguments(t *testing.T) {
	s := wild{from(28)}
	right := 0
	for range 6000 {
		c, d, v, u := s.anyCircuit(), s.anyCircuit(), s.numbers(), s.numbers()
		g := api.Gate{Kind: s.integer(), Wires: []int{s.integer(), s.integer(), s.integer()}[:s.Intn(4)], Bit: s.integer(), If: s.integer()}
		outcomes := make([]int, s.Intn(10))
		for k := range outcomes {
			outcomes[k] = s.Intn(2) * s.integer()
		}
		i, j := s.integer(), s.integer()
		all := calls(u, g, i, j, outcomes)
		for _, more := range []func() (any, api.Errno){
			func() (any, api.Errno) { r, e := Basis(i, j); return r, e },
			func() (any, api.Errno) { r, e := Run(c, v); return r, e },
			func() (any, api.Errno) { r, e := Along(c, v, outcomes); return r, e },
			func() (any, api.Errno) { r, e := Bits(c, v); return r, e },
			func() (any, api.Errno) { r, e := Matrix(c); return r, e },
			func() (any, api.Errno) { r, e := Amplitude(c, i, j); return r, e },
			func() (any, api.Errno) { r, e := Equal(c, d); return r, e },
		} {
			all = append(all, call{"more", func([]api.Num) (any, api.Errno) { return more() }})
		}
		for _, f := range all {
			got, e := f.do(v)
			if e != api.OK && !isZero(got) {
				t.Error(f.name, got, e)
			}
			if e == api.OK {
				right++
			}
		}
	}
	if right < 10000 {
		t.Error("too few calls were right:", right)
	}
}

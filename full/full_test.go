package full

import (
	"fmt"
	"slices"
	"testing"

	"spoondrift/api"
	"spoondrift/ring"
)

// P6.1: right states have 1, 2, 4 and up to 64 right numbers; Wires tells how many wires they have.
func TestCheck(t *testing.T) {
	for length := range 300 {
		v := make([]api.Num, length)
		wires, wanted := 0, api.ErrMany
		for n := 0; n <= api.MaxState; n++ {
			if length == 1<<n {
				wires, wanted = n, api.OK
			}
		}
		got, e := Wires(v)
		want(t, length, got, e, wires, wanted)
		want(t, length, 0, Check(v), 0, wanted)
	}
	for _, x := range wrongStates() {
		got, e := Wires(x.v)
		want(t, x.v, got, e, 0, x.e)
		want(t, x.v, 0, Check(x.v), 0, x.e)
	}
	for k := range 64 {
		v := slices.Repeat(row(num(most, -most, most, -most, api.MaxRoot)), 64)
		want(t, k, 0, Check(v), 0, api.OK)
		v[k].B = -most - 1
		want(t, k, 0, Check(v), 0, api.ErrLarge)
		v[k].K = -1
		want(t, k, 0, Check(v), 0, api.ErrRange)
	}
}

// P6.1: all basis states, and what is none.
func TestBasis(t *testing.T) {
	for n := -2; n <= api.MaxState+2; n++ {
		for k := -3; k <= 260; k++ {
			var wanted []api.Num
			f := api.ErrRange
			if n >= 0 && n <= api.MaxState && k >= 0 && k < 1<<n {
				wanted, f = make([]api.Num, 1<<n), api.OK
				wanted[k] = whole(1)
			}
			got, e := Basis(n, k)
			wantState(t, fmt.Sprint(n, k), got, e, wanted, f)
		}
	}
	for _, n := range []int{smallest, -64, 64, 63, greatest} {
		for _, k := range []int{smallest, -1, 0, 1, greatest} {
			got, e := Basis(n, k)
			wantState(t, n, got, e, nil, api.ErrRange)
			got, e = Basis(2, n)
			wantState(t, n, got, e, nil, api.ErrRange)
		}
	}
}

// P6.1: norms, against the chapter's words and residues.
func TestNorm(t *testing.T) {
	s := from(1)
	for i := range 400 {
		v := s.state(i%7, 60)
		wanted := 0
		for _, x := range v {
			wanted += residue(x) * residue(num(x.A, -x.D, -x.C, -x.B, x.K)) % prime
		}
		got, e := Norm(v)
		wantResidues(t, v, row(got), e, []int{wanted % prime})
		sum, f := normOf(v)
		want(t, v, got, e, sum, f)
	}
	large := 0
	for i := range 2000 {
		v := s.edge(i % 4)
		wanted, f := normOf(v)
		if f != api.OK {
			large++
		}
		got, e := Norm(v)
		want(t, v, got, e, wanted, f)
	}
	if large < 200 || large > 1800 {
		t.Error("too large:", large)
	}
}

// P6.1: a norm is too large as soon as a sum of the first norms is.
func TestNormTooLarge(t *testing.T) {
	small := over(20)
	for i, x := range []struct {
		v      []api.Num
		wanted api.Num
		e      api.Errno
	}{
		{wholes(3, 4), whole(25), api.OK},
		{wholes(0), whole(0), api.OK},
		{make([]api.Num, 64), whole(0), api.OK},
		{row(over(1), over(1)), whole(1), api.OK},
		{row(num(2, 0, 0, 0, 2)), whole(1), api.OK},
		{row(num(1, 1, 0, 0, 0)), num(2, 1, 0, -1, 0), api.OK},
		{wholes(1<<15, 0), whole(1 << 30), api.OK},
		{wholes(1<<15, 1), api.Num{}, api.ErrLarge},
		{wholes(most, 0), api.Num{}, api.ErrLarge},
		{wholes(0, most), api.Num{}, api.ErrLarge},
		{row(over(30)), over(60), api.OK},
		{row(over(31), over(31)), api.Num{}, api.ErrLarge},
		// 2^10 + 1 / r^40 is too large; 1 / r^36 + 2^10 is not.
		{row(whole(32), small, small, small, small, whole(0), whole(0), whole(0)), api.Num{}, api.ErrLarge},
		{row(small, small, small, small, whole(32), whole(0), whole(0), whole(0)), num(1<<28+1, 0, 0, 0, 36), api.OK},
		{row(small, small, small, whole(32), small, whole(0), whole(0), whole(0)), api.Num{}, api.ErrLarge},
	} {
		got, e := Norm(x.v)
		want(t, i, got, e, x.wanted, x.e)
	}
}

// raised is the state with other forms of the same numbers, where those are right.
func raised(v []api.Num) []api.Num {
	v = slices.Clone(v)
	for k, x := range v {
		if y := num(x.B-x.D, x.A+x.C, x.B+x.D, x.C-x.A, x.K+1); k%2 == 0 && ring.Check(y) == api.OK {
			v[k] = y
		}
	}
	return v
}

// P6.1: Phase finds each power of w, and none where one amplitude is another one.
func TestPhase(t *testing.T) {
	s := from(2)
	for n := 0; n <= api.MaxState; n++ {
		u := s.state(n, 50)
		u[len(u)-1] = num(3, 1, 0, 0, 1) // so that there is only one power
		for power := range 8 {
			var v []api.Num
			for _, x := range u {
				v = append(v, must(ring.Mul(x, ring.Omega(power))))
			}
			got, e := Phase(raised(v), u)
			want(t, v, got, e, power, api.OK)
			got, e = Phase(v, raised(u))
			want(t, v, got, e, power, api.OK)
			for k := range v {
				if len(v) > 1 {
					other := slices.Clone(v)
					other[k] = must(ring.Add(v[k], whole(1000)))
					got, e = Phase(other, u)
					want(t, k, got, e, 0, api.ErrNone)
				}
			}
		}
	}
}

// P6.1: the edges of Phase: zeros, other lengths, numbers of different powers, and the limits.
func TestPhaseEdges(t *testing.T) {
	w, i := ring.Omega(1), ring.Omega(2)
	for k, x := range []struct {
		v, u   []api.Num
		wanted int
		e      api.Errno
	}{
		{wholes(0), wholes(0), 0, api.OK},
		{make([]api.Num, 64), slices.Repeat(row(num(0, 0, 0, 0, 9)), 64), 0, api.OK},
		{wholes(0, 0), wholes(0), 0, api.ErrClash},
		{make([]api.Num, 32), make([]api.Num, 64), 0, api.ErrClash},
		{wholes(0), wholes(1), 0, api.ErrNone},
		{wholes(1), wholes(0), 0, api.ErrNone},
		{wholes(0, -1), wholes(0, 1), 4, api.OK},
		{wholes(-1, 0), wholes(0, 1), 0, api.ErrNone},
		{wholes(1, 1), wholes(1, -1), 0, api.ErrNone},
		{row(w, w), wholes(1, 1), 1, api.OK},
		{row(w, i), wholes(1, 1), 0, api.ErrNone},
		{row(w, i), row(whole(1), w), 1, api.OK},
		{wholes(1), row(w), 7, api.OK},
		{wholes(2), wholes(1), 0, api.ErrNone},
		{row(num(2, 0, 0, 0, 2)), wholes(-1), 4, api.OK},
		{row(num(-most, 1, -most, -most, 60)), row(num(-most, most, -1, most, 60)), 3, api.OK},
		{row(num(most, -most, -most, most, 60)), row(num(-most, most, most, -most, 60)), 4, api.OK},
	} {
		got, e := Phase(x.v, x.u)
		want(t, k, got, e, x.wanted, x.e)
	}
}

// call is a function of a state, with what else it takes already chosen.
type call struct {
	name string
	do   func(v []api.Num) (any, api.Errno)
}

// calls are all functions of states, for a state at each of their places; what else they take is given, and where a
// state or a circuit comes before it, that is a right one.
func calls(u []api.Num, g api.Gate, wire, outcome int, outcomes []int) []call {
	c := circuit(2, 1, look(0, 0))
	return []call{
		{"Check", func(v []api.Num) (any, api.Errno) { return 0, Check(v) }},
		{"Wires", func(v []api.Num) (any, api.Errno) { r, e := Wires(v); return r, e }},
		{"Norm", func(v []api.Num) (any, api.Errno) { r, e := Norm(v); return r, e }},
		{"Phase, first", func(v []api.Num) (any, api.Errno) { r, e := Phase(v, u); return r, e }},
		{"Phase, second", func(v []api.Num) (any, api.Errno) { r, e := Phase(wholes(1), v); return r, e }},
		{"Apply", func(v []api.Num) (any, api.Errno) { r, e := Apply(v, g); return r, e }},
		{"Find", func(v []api.Num) (any, api.Errno) { r, e := Find(v, wire, outcome); return r, e }},
		{"Odds", func(v []api.Num) (any, api.Errno) { r, e := Odds(v, wire); return r, e }},
		{"Run", func(v []api.Num) (any, api.Errno) { r, e := Run(c, v); return r, e }},
		{"Along", func(v []api.Num) (any, api.Errno) { r, e := Along(c, v, outcomes); return r, e }},
		{"Bits", func(v []api.Num) (any, api.Errno) { r, e := Bits(c, v); return r, e }},
	}
}

// The errors of Check come first, whatever else is wrong, and with an error all other results are zero.
func TestErrorsOfCheckFirst(t *testing.T) {
	for _, others := range [][]call{
		calls(wholes(1), on(api.X, 0), 0, 0, []int{0}),
		calls(nil, api.Gate{}, -1, 2, nil),
		calls(wholes(1, 2, 3), on(api.CX, 9, 9), greatest, smallest, []int{7, 7, 7}),
		calls(row(num(0, 0, 0, 0, 61)), on(api.CCX, 0), smallest, greatest, make([]int, 100)),
	} {
		for i, x := range wrongStates() {
			for _, c := range others {
				if got, e := c.do(x.v); !isZero(got) || e != x.e {
					t.Error(c.name, i, got, e, x.e)
				}
			}
		}
	}
	for _, x := range wrongStates() {
		for _, y := range wrongStates() {
			got, e := Phase(x.v, y.v)
			want(t, "the first one first", got, e, 0, x.e)
		}
	}
}

// R4: arguments stay as they are, and results have memory of their own.
func TestMemory(t *testing.T) {
	v, u := from(3).state(3, 9), from(4).state(3, 9)
	g, outcomes := on(api.CCX, 2, 0, 1), []int{1, 1}
	c := circuit(3, 2, on(api.H, 1), look(1, 1), when(2, api.T, 0), on(api.Reset, 1), on(api.CX, 2, 1))
	p := circuit(3, 2, on(api.H, 1), g)
	empty := circuit(3, 2)
	before := fmt.Sprint(v, u, g, outcomes, c, p, empty)
	spoil := func(l []api.Num, e api.Errno) {
		must(l, e)
		for k := range l[:cap(l)] {
			l[:cap(l)][k] = whole(k)
		}
	}
	spoil(Basis(3, 1))
	spoil(Apply(v, g))
	spoil(Find(v, 1, 1))
	spoil(Bits(c, v))
	must(Norm(v))
	Phase(v, u)
	must(Odds(v, 2))
	must(Amplitude(p, 1, 2))
	must(Equal(p, p))
	for _, c := range []api.Circuit{c, empty} {
		for _, b := range must(Run(c, v)) {
			spoil(b.State, api.OK)
			for k := range b.Outcomes[:cap(b.Outcomes)] {
				b.Outcomes[:cap(b.Outcomes)][k] = 9
			}
		}
	}
	b := must(Along(c, v, outcomes))
	spoil(b.State, api.OK)
	b.Outcomes[0] = 9
	b = must(Along(empty, v, nil))
	spoil(b.State, api.OK)
	for _, row := range must(Matrix(p)) {
		spoil(row, api.OK)
	}
	if now := fmt.Sprint(v, u, g, outcomes, c, p, empty); now != before {
		t.Error(now, before)
	}
}

// R4: branches share no memory with one another, and rows of an operator do not.
func TestMemoryOfResults(t *testing.T) {
	c := circuit(2, 1, on(api.H, 0), look(0, 0), on(api.Reset, 1), when(1, api.T, 1))
	l := must(Run(c, wholes(1, 2, 3, 4)))
	if len(l) != 4 {
		t.Fatal(l)
	}
	for i, b := range l {
		for k := range b.State {
			b.State[k] = whole(i)
		}
		for k := range b.Outcomes {
			b.Outcomes[k] = i
		}
		_, _ = append(b.State, whole(-1)), append(b.Outcomes, -1)
	}
	for i, b := range l {
		if !slices.Equal(b.State, slices.Repeat(row(whole(i)), 4)) || !slices.Equal(b.Outcomes, []int{i, i}) {
			t.Error("branches share memory", l)
		}
	}
	m := must(Matrix(circuit(2, 0)))
	for i, r := range m {
		for k := range r {
			r[k] = whole(i)
		}
		_ = append(r, whole(-1))
	}
	for i, r := range m {
		if !slices.Equal(r, slices.Repeat(row(whole(i)), 4)) {
			t.Error("rows share memory", m)
		}
	}
}

package full

import (
	"fmt"
	"math/rand"
	"slices"
	"testing"

	"spoondrift/api"
	"spoondrift/matrix"
	"spoondrift/ring"
)

// The greatest integer, and the smallest one; and the greatest coefficient.
const (
	greatest = 1<<63 - 1
	smallest = -1 << 63
	most     = api.MaxCoef
)

// num is a number, whole an integer, over one divided by a power of r.
func num(a, b, c, d, k int) api.Num { return api.Num{A: a, B: b, C: c, D: d, K: k} }
func whole(a int) api.Num           { return num(a, 0, 0, 0, 0) }
func over(k int) api.Num            { return num(1, 0, 0, 0, k) }

// wholes is a list of integers, row a list of numbers.
func wholes(l ...int) []api.Num {
	var v []api.Num
	for _, a := range l {
		v = append(v, whole(a))
	}
	return v
}
func row(l ...api.Num) []api.Num { return l }

// on is a gate on wires, when one with an If, look a Measure.
func on(kind int, wires ...int) api.Gate { return api.Gate{Kind: kind, Wires: wires} }
func when(n, kind int, wires ...int) api.Gate {
	return api.Gate{Kind: kind, Wires: wires, If: n}
}
func look(wire, bit int) api.Gate {
	return api.Gate{Kind: api.Measure, Wires: []int{wire}, Bit: bit}
}

// circuit is gates on wires and bits.
func circuit(wires, bits int, gates ...api.Gate) api.Circuit {
	return api.Circuit{Wires: wires, Bits: bits, Gates: gates}
}

// must returns a result that has no error.
func must[T any](result T, e api.Errno) T {
	if e != api.OK {
		panic(e)
	}
	return result
}

// want fails the test if a result is not the one that is wanted.
func want[T comparable](t *testing.T, what any, got T, e api.Errno, wanted T, f api.Errno) {
	t.Helper()
	if got != wanted || e != f {
		t.Errorf("%v: %v, error %d; want %v, error %d", what, got, e, wanted, f)
	}
}

// wantState fails the test if a state is not the one that is wanted.
func wantState(t *testing.T, what any, got []api.Num, e api.Errno, wanted []api.Num, f api.Errno) {
	t.Helper()
	if !slices.Equal(got, wanted) || e != f {
		t.Errorf("%v: %v, error %d; want %v, error %d", what, got, e, wanted, f)
	}
}

// textOf tells all of branches; a nil list is like an empty one.
func textOf(l ...Branch) string { return fmt.Sprintf("%v", l) }

// wantBranches fails the test if branches are not those that are wanted.
func wantBranches(t *testing.T, what any, got []Branch, e api.Errno, wanted []Branch, f api.Errno) {
	t.Helper()
	if textOf(got...) != textOf(wanted...) || e != f {
		t.Errorf("%v: %v, error %d; want %v, error %d", what, got, e, wanted, f)
	}
}

// isLeast reports whether a number is right and in least form, by the words of chapter 1.
func isLeast(x api.Num) bool {
	if x == (api.Num{}) {
		return true
	}
	return ring.Check(x) == api.OK && (x.K == 0 || (x.A-x.C)%2 != 0 || (x.B-x.D)%2 != 0)
}

// The words of the chapter, as they are said there, with matrices of chapter 3 and numbers of chapter 1.

// wiresOf is how many wires a right state has.
func wiresOf(v []api.Num) int {
	n := 0
	for 1<<n < len(v) {
		n++
	}
	return n
}

// appliedTo is a state after a gate: a row of the operator on the gate's wires for each amplitude; the products, of which
// the factor in the operator is not 0, from the left to the right.
func appliedTo(v []api.Num, g api.Gate) ([]api.Num, api.Errno) {
	after := make([]api.Num, len(v))
	for k, row := range must(matrix.On(must(matrix.Of(g.Kind)), g.Wires, wiresOf(v))) {
		begun := false
		for j, x := range row {
			if x == (api.Num{}) {
				continue
			}
			sum, e := ring.Mul(x, v[j])
			if e == api.OK && begun {
				sum, e = ring.Add(after[k], sum)
			}
			if e != api.OK {
				return nil, e
			}
			after[k], begun = sum, true
		}
	}
	return after, api.OK
}

// foundIn is a state after an outcome of a wire was found, in least form.
func foundIn(v []api.Num, wire, outcome int) []api.Num {
	after := make([]api.Num, len(v))
	for k, x := range v {
		if k>>wire&1 == outcome {
			after[k] = must(ring.Least(x))
		}
	}
	return after
}

// normOf is the norm of a state: the first norm, then the sums with the further ones.
func normOf(v []api.Num) (api.Num, api.Errno) {
	sum, e := ring.Norm(v[0])
	for _, x := range v[1:] {
		next, f := ring.Norm(x)
		if e == api.OK && f == api.OK {
			sum, e = ring.Add(sum, next)
		}
		if e != api.OK || f != api.OK {
			return api.Num{}, api.ErrLarge
		}
	}
	return sum, e
}

// goneAlong is the run of a right circuit along outcomes, dead or not.
func goneAlong(c api.Circuit, v []api.Num, outcomes []int) (Branch, api.Errno) {
	b := Branch{Outcomes: outcomes}
	for _, x := range v {
		b.State = append(b.State, must(ring.Least(x)))
	}
	for _, g := range c.Gates {
		e := api.OK
		switch {
		case g.Kind == api.Measure:
			b.State = foundIn(b.State, g.Wires[0], outcomes[0])
			b.Bits = b.Bits&^(1<<g.Bit) | outcomes[0]<<g.Bit
			outcomes = outcomes[1:]
		case g.Kind == api.Reset:
			b.State = foundIn(b.State, g.Wires[0], outcomes[0])
			if outcomes[0] == 1 {
				b.State, e = appliedTo(b.State, on(api.X, g.Wires[0]))
			}
			outcomes = outcomes[1:]
		case g.If == 0 || b.Bits>>(g.If-1)&1 == 1:
			b.State, e = appliedTo(b.State, g)
		}
		if e != api.OK {
			return Branch{}, e
		}
	}
	return b, api.OK
}

// finds is how many Measures and Resets a circuit has.
func finds(c api.Circuit) int {
	n := 0
	for _, g := range c.Gates {
		if g.Kind == api.Measure || g.Kind == api.Reset {
			n++
		}
	}
	return n
}

// lists are all lists of n outcomes, in their order.
func lists(n int) [][]int {
	if n == 0 {
		return [][]int{nil}
	}
	var l [][]int
	for first := range 2 {
		for _, rest := range lists(n - 1) {
			l = append(l, append([]int{first}, rest...))
		}
	}
	return l
}

// isDead tells whether a state has only 0.
func isDead(v []api.Num) bool {
	return !slices.ContainsFunc(v, func(x api.Num) bool { return x != api.Num{} })
}

// allBranches are the branches of a right circuit that are not dead.
func allBranches(c api.Circuit, v []api.Num) ([]Branch, api.Errno) {
	var l []Branch
	for _, outcomes := range lists(finds(c)) {
		b, e := goneAlong(c, v, outcomes)
		if e != api.OK {
			return nil, e
		}
		if !isDead(b.State) {
			l = append(l, b)
		}
	}
	return l, api.OK
}

// sumsOf are the sums of the norms of branches for each number of bits.
func sumsOf(bits int, l []Branch) ([]api.Num, api.Errno) {
	sums := make([]api.Num, 1<<bits)
	for _, b := range l {
		norm, e := normOf(b.State)
		if e == api.OK {
			sums[b.Bits], e = ring.Add(sums[b.Bits], norm)
		}
		if e != api.OK {
			return nil, e
		}
	}
	return sums, api.OK
}

// What gates do, without matrices and numbers: amplitudes are residues modulo prime, which is 1 modulo 8, so that there is
// an eighth root of 1.

const prime = 998244353

// powerOf is base^n modulo prime.
func powerOf(base, n int) int {
	result := 1
	for ; n > 0; n /= 2 {
		if n%2 == 1 {
			result = result * base % prime
		}
		base = base * base % prime
	}
	return result
}

// omega is the residue of w^n, half that of 1/r.
func omega(n int) int { return powerOf(powerOf(3, (prime-1)/8), n) }
func half() int       { return (omega(1) + prime - omega(3)) * ((prime + 1) / 2) % prime }

// residue is what a number becomes modulo prime.
func residue(x api.Num) int {
	sum := 0
	for i, c := range []int{x.A, x.B, x.C, x.D} {
		sum += (c%prime + prime) % prime * omega(i) % prime
	}
	return sum % prime * powerOf(half(), x.K) % prime
}

// residues are those of a state.
func residues(v []api.Num) []int {
	l := make([]int, len(v))
	for k, x := range v {
		l[k] = residue(x)
	}
	return l
}

// moved tells what a plain gate makes of a basis state: basis states and their amplitudes, as DOC.md says it of all kinds.
func moved(g api.Gate, x int) map[int]int {
	of := func(k int) int { return x >> g.Wires[k] & 1 }
	flip := func(k int) int { return x ^ 1<<g.Wires[k] }
	turn := func(power int) map[int]int { return map[int]int{x: omega(power)} }
	switch g.Kind {
	case api.X:
		return map[int]int{flip(0): 1}
	case api.Y:
		return map[int]int{flip(0): omega(2 + 4*of(0))}
	case api.Z:
		return turn(4 * of(0))
	case api.H:
		return map[int]int{x &^ (1 << g.Wires[0]): half(), x | 1<<g.Wires[0]: half() * omega(4*of(0)) % prime}
	case api.S:
		return turn(2 * of(0))
	case api.Sd:
		return turn(6 * of(0))
	case api.T:
		return turn(of(0))
	case api.Td:
		return turn(7 * of(0))
	case api.CX:
		if of(0) == 1 {
			return map[int]int{flip(1): 1}
		}
	case api.CZ:
		return turn(4 * of(0) * of(1))
	case api.Swap:
		if of(0) != of(1) {
			return map[int]int{flip(0) ^ 1<<g.Wires[1]: 1}
		}
	case api.CCX:
		if of(0)*of(1) == 1 {
			return map[int]int{flip(2): 1}
		}
	}
	return turn(0)
}

// movedAll is a state of residues after a plain gate.
func movedAll(g api.Gate, state []int) []int {
	next := make([]int, len(state))
	for x, a := range state {
		for y, b := range moved(g, x) {
			next[y] = (next[y] + a*b) % prime
		}
	}
	return next
}

// wantResidues fails the test if a state has an error, other residues, or a number that is not in least form.
func wantResidues(t *testing.T, what any, got []api.Num, e api.Errno, wanted []int) {
	t.Helper()
	if e != api.OK || !slices.Equal(residues(got), wanted) {
		t.Errorf("%v: %v, error %d", what, got, e)
	}
	for _, x := range got {
		if !isLeast(x) {
			t.Error(what, x, "is not in least form")
		}
	}
}

// Samples.

// source makes numbers, states, gates and circuits, always the same ones.
type source struct{ *rand.Rand }

// from is a source.
func from(seed int64) source { return source{rand.New(rand.NewSource(seed))} }

// number is a number with coefficients up to limit; some are 0, and some not in least form.
func (s source) number(limit int) api.Num {
	part := func() int { return s.Intn(2*limit+1) - limit }
	switch s.Intn(6) {
	case 0:
		return num(0, 0, 0, 0, s.Intn(3))
	case 1:
		return num(2*part(), 2*part(), 2*part(), 2*part(), s.Intn(5))
	case 2:
		return whole(part())
	}
	return num(part(), part(), part(), part(), s.Intn(4))
}

// state is a state of n wires.
func (s source) state(n, limit int) []api.Num {
	v := make([]api.Num, 1<<n)
	for k := range v {
		v[k] = s.number(limit)
	}
	return v
}

// edge is a state with numbers near the limits.
func (s source) edge(n int) []api.Num {
	v := make([]api.Num, 1<<n)
	for k := range v {
		switch s.Intn(8) {
		case 0:
			v[k] = num(most-s.Intn(2), 0, s.Intn(2), 0, s.Intn(3))
		case 1:
			v[k] = num(0, most/(1+s.Intn(2)), 0, -most/(1+s.Intn(2)), s.Intn(2))
		case 2:
			v[k] = num(s.Intn(3), 0, 1, 0, 57+s.Intn(4))
		case 3:
			v[k] = num(s.Intn(5), 1, s.Intn(3), 0, s.Intn(4))
		case 4:
			v[k] = num(1+s.Intn(2), 0, s.Intn(2), 0, 16+s.Intn(14))
		}
	}
	return v
}

// arities are those of the kinds, from 0 on.
var arities = []int{0, 1, 1, 1, 1, 1, 1, 1, 1, 2, 2, 2, 3, 1, 1}

// gate is a right gate; finding tells whether it may find something.
func (s source) gate(wires, bits int, finding bool) api.Gate {
	kind := 1 + s.Intn(api.Reset)
	for arities[kind] > wires || kind == api.Measure && bits == 0 || kind >= api.Measure && !finding {
		kind = 1 + s.Intn(api.Reset)
	}
	g := on(kind, s.Perm(wires)[:arities[kind]]...)
	switch {
	case kind == api.Measure:
		g.Bit = s.Intn(bits)
	case kind < api.Measure && s.Intn(3) == 0:
		g.If = s.Intn(bits + 1)
	}
	return g
}

// circuit is a right circuit with at most as many gates that find something.
func (s source) circuit(wires, bits, gates, finding int) api.Circuit {
	c := circuit(wires, bits)
	for range gates {
		g := s.gate(wires, bits, finding > 0)
		if g.Kind >= api.Measure {
			finding--
		}
		c.Gates = append(c.Gates, g)
	}
	return c
}

// plain is a plain circuit.
func (s source) plain(wires, gates int) api.Circuit { return s.circuit(wires, 0, gates, 0) }

// allGates are the gates of all kinds from X to CCX on all wires.
func allGates(wires int) []api.Gate {
	var l []api.Gate
	var put func(kind int, own []int)
	put = func(kind int, own []int) {
		if len(own) == arities[kind] {
			l = append(l, on(kind, own...))
			return
		}
		for wire := range wires {
			if !slices.Contains(own, wire) {
				put(kind, append(slices.Clone(own), wire))
			}
		}
	}
	for kind := api.X; kind <= api.CCX; kind++ {
		put(kind, nil)
	}
	return l
}

// wrongState is a state that is not right, with its error.
type wrongState struct {
	v []api.Num
	e api.Errno
}

// wrongStates have each error alone, and before those that come after it.
func wrongStates() []wrongState {
	high, large := num(0, 0, 0, 0, api.MaxRoot+1), whole(most+1)
	return []wrongState{
		{nil, api.ErrMany},
		{[]api.Num{}, api.ErrMany},
		{wholes(1, 2, 3), api.ErrMany},
		{make([]api.Num, 63), api.ErrMany},
		{make([]api.Num, 65), api.ErrMany},
		{make([]api.Num, 128), api.ErrMany},
		{row(high, large, high), api.ErrMany},
		{slices.Repeat(row(large), 96), api.ErrMany},
		{row(high), api.ErrRange},
		{row(large), api.ErrLarge},
		{row(num(0, 0, 0, -most-1, 3)), api.ErrLarge},
		{row(num(smallest, greatest, 0, 0, -1)), api.ErrRange},
		{row(num(smallest, greatest, 0, 0, 0)), api.ErrLarge},
		{row(num(0, 0, 0, 0, smallest)), api.ErrRange},
		{row(num(0, 0, 0, 0, greatest)), api.ErrRange},
		{row(large, high), api.ErrLarge},
		{row(high, large), api.ErrRange},
		{row(whole(1), large, high, high), api.ErrLarge},
		{append(make([]api.Num, 63), large), api.ErrLarge},
		{append(make([]api.Num, 63), high), api.ErrRange},
	}
}

// wrongCircuit is a circuit that is not right, with its error.
type wrongCircuit struct {
	c api.Circuit
	e api.Errno
}

// wrongCircuits have the errors of circ.Check, whose own tests tell more of them.
func wrongCircuits() []wrongCircuit {
	many := slices.Repeat([]api.Gate{on(api.Reset, 0)}, api.MaxGates+1)
	return []wrongCircuit{
		{api.Circuit{}, api.ErrRange},
		{circuit(13, 0), api.ErrRange},
		{circuit(smallest, greatest), api.ErrRange},
		{circuit(1, 9), api.ErrRange},
		{circuit(1, -1), api.ErrRange},
		{circuit(1, 0, many...), api.ErrMany},
		{circuit(1, 0, on(0, 0)), api.ErrRange},
		{circuit(1, 0, on(15, 0)), api.ErrRange},
		{circuit(7, 0, on(api.CX, 0)), api.ErrMany},
		{circuit(1, 0, on(api.Reset, 1)), api.ErrNot},
		{circuit(1, 0, look(0, 0)), api.ErrNot},
		{circuit(1, 0, when(1, api.X, 0)), api.ErrNot},
		{circuit(7, 0, on(api.CX, 1, 1)), api.ErrTwice},
		{circuit(7, 1, on(api.Reset, 0), when(1, api.Reset, 0)), api.ErrClash},
	}
}

// copyOf is a circuit that shares no memory with c.
func copyOf(c api.Circuit) api.Circuit {
	c.Gates = slices.Clone(c.Gates)
	for i := range c.Gates {
		c.Gates[i].Wires = slices.Clone(c.Gates[i].Wires)
	}
	return c
}

// isZero reports whether a result is 0, the number 0, an empty list, or a branch without anything.
func isZero(x any) bool {
	return slices.Contains([]string{"0", "[]", "{0 0 0 0 0}", "{[] 0 []}"}, fmt.Sprint(x))
}

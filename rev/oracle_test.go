package rev

import (
	"fmt"
	"math/rand"
	"slices"
	"testing"

	"spoondrift/api"
)

// The greatest integer, and the smallest one.
const (
	greatest = 1<<63 - 1
	smallest = -1 << 63
)

// on is a gate on wires.
func on(kind int, wires ...int) api.Gate { return api.Gate{Kind: kind, Wires: wires} }

func x(t int) api.Gate { return on(api.X, t) }

func cx(a, t int) api.Gate { return on(api.CX, a, t) }

func ccx(a, b, t int) api.Gate { return on(api.CCX, a, b, t) }

func swap(a, b int) api.Gate { return on(api.Swap, a, b) }

// circuit is gates on wires.
func circuit(wires int, gates ...api.Gate) api.Circuit {
	return api.Circuit{Wires: wires, Gates: gates}
}

// v is a variable.
func v(number int) api.Bool { return api.Bool{Kind: Var, Var: number} }

// of is what is made of expressions.
func of(kind int, args ...api.Bool) api.Bool { return api.Bool{Kind: kind, Args: args} }

// The words of the chapter, as they are said there.

// wiresOf are the values of the wires of a state.
func wiresOf(state, wires int) []bool {
	l := make([]bool, wires)
	for k := range l {
		l[k] = state/(1<<k)%2 == 1
	}
	return l
}

// numberOf is the number of a state.
func numberOf(wires []bool) int {
	sum := 0
	for k, is := range wires {
		if is {
			sum += 1 << k
		}
	}
	return sum
}

// does is what the gates of a circuit make of a state.
func does(c api.Circuit, state int) int {
	l := wiresOf(state, c.Wires)
	for _, g := range c.Gates {
		switch w := g.Wires; g.Kind {
		case api.X:
			l[w[0]] = !l[w[0]]
		case api.CX:
			if l[w[0]] {
				l[w[1]] = !l[w[1]]
			}
		case api.Swap:
			l[w[0]], l[w[1]] = l[w[1]], l[w[0]]
		case api.CCX:
			if l[w[0]] && l[w[1]] {
				l[w[2]] = !l[w[2]]
			}
		default:
			panic(g.Kind)
		}
	}
	return numberOf(l)
}

// tableIs is the table of a circuit.
func tableIs(c api.Circuit) []int {
	l := make([]int, 1<<c.Wires)
	for state := range l {
		l[state] = does(c, state)
	}
	return l
}

// widths are of how many wires the lists of so many numbers are.
var widths = map[int]int{2: 1, 4: 2, 8: 3}

// made is the circuit of a permutation.
func made(p []int) api.Circuit {
	c := circuit(widths[len(p)])
	f := slices.Clone(p)
	add := func(k int, controls []int) {
		g := on([]int{api.X, api.CX, api.CCX}[len(controls)], append(slices.Clone(controls), k)...)
		for i := range f {
			f[i] = does(circuit(c.Wires, g), f[i])
		}
		c.Gates = slices.Insert(c.Gates, 0, g)
	}
	bitsOf := func(number int) []int {
		var l []int
		for k, is := range wiresOf(number, c.Wires) {
			if is {
				l = append(l, k)
			}
		}
		return l
	}
	// without is the least bit of a that b has not, or -1.
	without := func(a, b int) int {
		for _, k := range bitsOf(a) {
			if !slices.Contains(bitsOf(b), k) {
				return k
			}
		}
		return -1
	}
	for _, k := range bitsOf(p[0]) {
		add(k, nil)
	}
	for i := 1; i < len(p); i++ {
		for without(i, f[i]) >= 0 {
			add(without(i, f[i]), bitsOf(f[i]))
		}
		for without(f[i], i) >= 0 {
			add(without(f[i], i), bitsOf(i))
		}
	}
	return c
}

// valueOf is the value of an expression, 0 or 1, reckoned with numbers.
func valueOf(e api.Bool, state int) int {
	var l []int
	for _, arg := range e.Args {
		l = append(l, valueOf(arg, state))
	}
	switch e.Kind {
	case Var:
		return state / (1 << e.Var) % 2
	case Not:
		return 1 - l[0]
	case And:
		return l[0] * l[1]
	case Xor:
		return (l[0] + l[1]) % 2
	case Or:
		return l[0] + l[1] - l[0]*l[1]
	}
	return map[int]int{No: 0, Yes: 1}[e.Kind]
}

// sizeOf is the size of an expression.
func sizeOf(e api.Bool) int {
	size := 1
	for _, arg := range e.Args {
		size += sizeOf(arg)
	}
	return size
}

// added are the gates that add an expression to a wire, with the first free wire.
func added(e api.Bool, t, free int) []api.Gate {
	switch e.Kind {
	case Var:
		return []api.Gate{cx(e.Var, t)}
	case Not:
		return append(added(e.Args[0], t, free), x(t))
	case Xor:
		return append(added(e.Args[0], t, free), added(e.Args[1], t, free)...)
	case Or:
		return added(of(Not, of(And, of(Not, e.Args[0]), of(Not, e.Args[1]))), t, free)
	case Yes:
		return []api.Gate{x(t)}
	case No:
		return nil
	}
	var before []api.Gate
	var has []int
	for _, arg := range e.Args {
		if arg.Kind == Var {
			has = append(has, arg.Var)
			continue
		}
		has = append(has, free)
		before = append(before, added(arg, free, free+1)...)
		free++
	}
	l := slices.Clone(before)
	if has[0] == has[1] {
		l = append(l, cx(has[0], t))
	} else {
		l = append(l, ccx(has[0], has[1], t))
	}
	slices.Reverse(before)
	return append(l, before...)
}

// compiled is the compiled circuit of an expression, however large it is.
func compiled(e api.Bool, vars int) api.Circuit {
	c := circuit(vars+1, added(e, vars, vars+1)...)
	for _, g := range c.Gates {
		c.Wires = max(c.Wires, slices.Max(g.Wires)+1)
	}
	return c
}

// compileError is the error of the compiled circuit of a right expression.
func compileError(c api.Circuit) api.Errno {
	if c.Wires > api.MaxWires {
		return api.ErrFull
	}
	if len(c.Gates) > api.MaxGates {
		return api.ErrMany
	}
	return api.OK
}

// leaves is the state that Clean returns, or -1.
func leaves(c api.Circuit, ancillas []int) int {
	anyOne := func(state int) bool {
		l := wiresOf(state, c.Wires)
		return slices.ContainsFunc(ancillas, func(k int) bool { return l[k] })
	}
	for state, made := range tableIs(c) {
		if !anyOne(state) && anyOne(made) {
			return state
		}
	}
	return -1
}

// lends is the state that Borrowed returns, or -1.
func lends(c api.Circuit, lent []int) int {
	for state, made := range tableIs(c) {
		in, out := wiresOf(state, c.Wires), wiresOf(made, c.Wires)
		zero := slices.Clone(in)
		for _, k := range lent {
			zero[k] = false
		}
		other := wiresOf(does(c, numberOf(zero)), c.Wires)
		for k := range c.Wires {
			if slices.Contains(lent, k) && out[k] != in[k] || !slices.Contains(lent, k) && out[k] != other[k] {
				return state
			}
		}
	}
	return -1
}

// wantFound fails the test if a state is not the one that is wanted, or if none is wanted (-1) and there is one.
func wantFound(t *testing.T, what any, got int, e api.Errno, wanted int) {
	t.Helper()
	if wanted < 0 {
		want(t, what, got, e, 0, api.ErrNone)
	} else {
		want(t, what, got, e, wanted, api.OK)
	}
}

// Samples, always the same ones.

// source makes samples.
type source struct{ *rand.Rand }

// from is a source.
func from(seed int64) source { return source{rand.New(rand.NewSource(seed))} }

// gate is any gate of a classical circuit.
func (s source) gate(wires int) api.Gate {
	l := s.Perm(wires)
	switch n := s.Intn(8); {
	case n == 0 || wires == 1:
		return x(l[0])
	case n < 3 || wires == 2 && n < 6:
		return cx(l[0], l[1])
	case n == 3 || wires == 2:
		return swap(l[0], l[1])
	}
	return ccx(l[0], l[1], l[2])
}

// circuit is any classical circuit.
func (s source) circuit(wires, gates int) api.Circuit {
	c := circuit(wires)
	for range gates {
		c.Gates = append(c.Gates, s.gate(wires))
	}
	return c
}

// expression is any expression of a size.
func (s source) expression(size, vars int) api.Bool {
	switch {
	case size == 1 && s.Intn(5) == 0:
		return of([]int{No, Yes}[s.Intn(2)])
	case size == 1:
		return v(s.Intn(vars))
	case size == 2 || s.Intn(4) == 0:
		return of(Not, s.expression(size-1, vars))
	}
	first := 1 + s.Intn(size-2)
	return of([]int{And, Xor, Or}[s.Intn(3)], s.expression(first, vars), s.expression(size-1-first, vars))
}

// expressions are all expressions of a size.
func expressions(size, vars int) []api.Bool {
	var l []api.Bool
	if size == 1 {
		l = append(l, of(No), of(Yes))
		for k := range vars {
			l = append(l, v(k))
		}
		return l
	}
	for _, e := range expressions(size-1, vars) {
		l = append(l, of(Not, e))
	}
	for first := 1; first < size-1; first++ {
		for _, e := range expressions(first, vars) {
			for _, f := range expressions(size-1-first, vars) {
				l = append(l, of(And, e, f), of(Xor, e, f), of(Or, e, f))
			}
		}
	}
	return l
}

// permutations are all lists of the numbers from 0 to n - 1, each once, in lexicographic order.
func permutations(n int) [][]int {
	var l [][]int
	var walk func(p []int)
	walk = func(p []int) {
		if len(p) == n {
			l = append(l, slices.Clone(p))
		}
		for x := range n {
			if !slices.Contains(p, x) {
				walk(append(p, x))
			}
		}
	}
	walk(nil)
	return l
}

// textOf tells all of a value; nil and an empty list are the same.
func textOf(x any) string { return fmt.Sprintf("%+v", x) }

// want fails the test if a result is not the one that is wanted.
func want(t *testing.T, what, got any, e api.Errno, wanted any, f api.Errno) {
	t.Helper()
	if textOf(got) != textOf(wanted) || e != f {
		t.Errorf("%v: %v, error %d; want %v, error %d", what, got, e, wanted, f)
	}
}

// must returns a result that has no error.
func must[T any](result T, e api.Errno) T {
	if e != api.OK {
		panic(e)
	}
	return result
}

// call is a function that returns a result and an error, with what it takes already chosen.
type call struct {
	name string
	do   func() (any, api.Errno)
}

// named is a call of a function.
func named[T any](name string, do func() (T, api.Errno)) call {
	return call{name, func() (any, api.Errno) {
		result, e := do()
		return result, e
	}}
}

// circuitCalls are all functions with circuits, for a circuit at each of their places; where a circuit comes before it,
// that is a right one.
func circuitCalls(c, other api.Circuit, state int, l []int) []call {
	return []call{
		named("Check", func() (int, api.Errno) { return 0, Check(c) }),
		named("Apply", func() (int, api.Errno) { return Apply(c, state) }),
		named("Table", func() ([]int, api.Errno) { return Table(c) }),
		named("Same, first", func() (bool, api.Errno) { return Same(c, other) }),
		named("Same, second", func() (bool, api.Errno) { return Same(circuit(1), c) }),
		named("Clean", func() (int, api.Errno) { return Clean(c, l) }),
		named("Borrowed", func() (int, api.Errno) { return Borrowed(c, l) }),
		named("Keep", func() (api.Circuit, api.Errno) { return Keep(c, l) }),
	}
}

// permutationCalls are all functions with permutations.
func permutationCalls(p []int, most int) []call {
	return []call{
		named("Wide", func() (int, api.Errno) { return Wide(p) }),
		named("Circuit", func() (api.Circuit, api.Errno) { return Circuit(p) }),
		named("Cycles", func() ([][]int, api.Errno) { return Cycles(p) }),
		named("Even", func() (bool, api.Errno) { return Even(p) }),
		named("Shortest", func() (api.Circuit, api.Errno) { return Shortest(p, most) }),
	}
}

// boolCalls are all functions with expressions.
func boolCalls(e api.Bool, vars, state int) []call {
	return []call{
		named("Good", func() (int, api.Errno) { return 0, Good(e, vars) }),
		named("Eval", func() (bool, api.Errno) { return Eval(e, vars, state) }),
		named("Compile", func() (api.Circuit, api.Errno) { return Compile(e, vars) }),
	}
}

// isZero reports whether a result is zero.
func isZero(x any) bool {
	for _, zero := range []any{0, false, []int(nil), [][]int(nil), api.Circuit{}} {
		if fmt.Sprintf("%T", x) == fmt.Sprintf("%T", zero) {
			return textOf(x) == textOf(zero)
		}
	}
	return false
}

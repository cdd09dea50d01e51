package circ

import (
	"fmt"
	"math/rand"
	"slices"
	"sort"
	"strings"
	"testing"

	"spoondrift/api"
)

// The greatest integer, and the smallest one.
const (
	greatest = 1<<63 - 1
	smallest = -1 << 63
)

// on is a gate on wires, when one with an If, look a Measure.
func on(kind int, wires ...int) api.Gate { return api.Gate{Kind: kind, Wires: wires} }
func when(n, kind int, wires ...int) api.Gate {
	return api.Gate{Kind: kind, Wires: wires, If: n}
}
func look(wire, bit int) api.Gate {
	return api.Gate{Kind: api.Measure, Wires: []int{wire}, Bit: bit}
}

// circuit is gates on wires and bits.
func circuit(wires, bits int, gates ...api.Gate) api.Circuit {
	return api.Circuit{Wires: wires, Bits: bits, Gates: gates}
}

// three is gates on three wires and two bits.
func three(gates ...api.Gate) api.Circuit { return circuit(3, 2, gates...) }

// copyOf is a circuit that shares no memory with c.
func copyOf(c api.Circuit) api.Circuit {
	c.Gates = slices.Clone(c.Gates)
	for i := range c.Gates {
		c.Gates[i].Wires = slices.Clone(c.Gates[i].Wires)
	}
	return c
}

// textOf tells all of a circuit, gate by gate.
func textOf(c api.Circuit) string { return fmt.Sprintf("%d %d %v", c.Wires, c.Bits, c.Gates) }

// wantCircuit fails the test if a circuit is not the one that is wanted.
func wantCircuit(t *testing.T, what any, got api.Circuit, e api.Errno, wanted api.Circuit, f api.Errno) {
	t.Helper()
	if textOf(got) != textOf(wanted) || e != f {
		t.Errorf("%v: %v, error %d; want %v, error %d", what, got, e, wanted, f)
	}
}

// want fails the test if a result is not the one that is wanted.
func want[T comparable](t *testing.T, what any, got T, e api.Errno, wanted T, f api.Errno) {
	t.Helper()
	if got != wanted || e != f {
		t.Errorf("%v: %v, error %d; want %v, error %d", what, got, e, wanted, f)
	}
}

// wantList fails the test if a list is not the one that is wanted.
func wantList(t *testing.T, what any, got []int, e api.Errno, wanted []int, f api.Errno) {
	t.Helper()
	if !slices.Equal(got, wanted) || e != f {
		t.Errorf("%v: %v, error %d; want %v, error %d", what, got, e, wanted, f)
	}
}

// must returns a result that has no error.
func must[T any](result T, e api.Errno) T {
	if e != api.OK {
		panic(e)
	}
	return result
}

// The words of the chapter, as they are said there.

// axisOn is the axis of a gate on a wire that it has; 0 if there is none.
func axisOn(g api.Gate, wire int) byte {
	switch g.Kind {
	case api.Z, api.S, api.Sd, api.T, api.Td, api.CZ, api.Measure:
		return 'z'
	case api.CX:
		if wire == g.Wires[0] {
			return 'z'
		}
		return 'x'
	case api.CCX:
		if wire == g.Wires[2] {
			return 'x'
		}
		return 'z'
	case api.X:
		return 'x'
	case api.Y:
		return 'y'
	case api.H:
		return 'h'
	}
	return 0
}

// bitsMeet tells whether one of two gates writes a bit that the other one reads or writes.
func bitsMeet(g, h api.Gate) bool {
	for bit := range api.MaxBits {
		gWrites, hWrites := g.Kind == api.Measure && g.Bit == bit, h.Kind == api.Measure && h.Bit == bit
		gReads, hReads := g.If == bit+1, h.If == bit+1
		if gWrites && (hReads || hWrites) || hWrites && (gReads || gWrites) {
			return true
		}
	}
	return false
}

// wiresMeet tells whether two gates have a wire in common.
func wiresMeet(g, h api.Gate) bool {
	return slices.ContainsFunc(g.Wires, func(wire int) bool { return slices.Contains(h.Wires, wire) })
}

// doMeet tells whether two gates meet.
func doMeet(g, h api.Gate) bool { return wiresMeet(g, h) || bitsMeet(g, h) }

// setOf is wires, rising.
func setOf(wires []int) []int { return slices.Sorted(slices.Values(wires)) }

// doCommute tells whether two gates commute.
func doCommute(g, h api.Gate) bool {
	if !doMeet(g, h) {
		return true
	}
	if bitsMeet(g, h) {
		return false
	}
	axes := true
	for _, wire := range g.Wires {
		if slices.Contains(h.Wires, wire) {
			a, b := axisOn(g, wire), axisOn(h, wire)
			axes = axes && a != 0 && b != 0 && a == b
		}
	}
	swaps := false
	for _, x := range [][2]api.Gate{{g, h}, {h, g}} {
		swaps = swaps || x[0].Kind == api.Swap && (x[1].Kind == api.Swap || x[1].Kind == api.CZ)
	}
	return axes || swaps && slices.Equal(setOf(g.Wires), setOf(h.Wires))
}

// doUndo tells whether two gates undo one another.
func doUndo(g, h api.Gate) bool {
	if g.If != h.If {
		return false
	}
	same := slices.Equal(g.Wires, h.Wires)
	switch [2]int{min(g.Kind, h.Kind), max(g.Kind, h.Kind)} {
	case [2]int{api.S, api.Sd}, [2]int{api.T, api.Td}, [2]int{api.X, api.X}, [2]int{api.Y, api.Y}, [2]int{api.Z, api.Z}, [2]int{api.H, api.H}, [2]int{api.CX, api.CX}:
		return same
	case [2]int{api.CZ, api.CZ}, [2]int{api.Swap, api.Swap}:
		return slices.Equal(setOf(g.Wires), setOf(h.Wires))
	case [2]int{api.CCX, api.CCX}:
		return g.Wires[2] == h.Wires[2] && slices.Equal(setOf(g.Wires[:2]), setOf(h.Wires[:2]))
	}
	return false
}

// comesFirst tells whether g is before h in the order of gates.
func comesFirst(g, h api.Gate) bool {
	key := func(g api.Gate) []int { return slices.Concat([]int{g.Kind}, g.Wires, []int{g.Bit, g.If}) }
	return slices.Compare(key(g), key(h)) < 0
}

// tidyOf is Tidy, step by step.
func tidyOf(c api.Circuit) api.Circuit {
	left := copyOf(c).Gates
	c.Gates = nil
	for len(left) > 0 {
		var ready []int
		for i, g := range left {
			if !slices.ContainsFunc(left[:i], func(h api.Gate) bool { return !doCommute(g, h) }) {
				ready = append(ready, i)
			}
		}
		sort.SliceStable(ready, func(a, b int) bool { return comesFirst(left[ready[a]], left[ready[b]]) })
		c.Gates = append(c.Gates, left[ready[0]])
		left = slices.Delete(left, ready[0], ready[0]+1)
	}
	return c
}

// cancelOf is Cancel, step by step.
func cancelOf(c api.Circuit) api.Circuit {
	var kept []api.Gate
	for _, g := range c.Gates {
		i := len(kept) - 1
		for i >= 0 && !doUndo(kept[i], g) && doCommute(kept[i], g) {
			i--
		}
		if i >= 0 && doUndo(kept[i], g) {
			kept = slices.Delete(kept, i, i+1)
		} else {
			kept = append(kept, g)
		}
	}
	c.Gates = kept
	return c
}

// layersOf are the layers, gate by gate.
func layersOf(c api.Circuit) []int {
	layers := make([]int, len(c.Gates))
	for i, g := range c.Gates {
		for j, h := range c.Gates[:i] {
			if doMeet(g, h) && layers[i] <= layers[j] {
				layers[i] = layers[j] + 1
			}
		}
	}
	return layers
}

// What circuits do: amplitudes are residues modulo prime, which is 1 modulo 8, so that there is an eighth root of 1.

const prime = 998244353

// powerOf is base^n modulo prime.
func powerOf(base, n int) int {
	result := 1
	for range n {
		result = result * base % prime
	}
	return result
}

// roots are the residues of w, found as a number whose fourth power is -1, and of 1 / r.
func roots() (eighth, half int) {
	for x := 2; ; x++ {
		eighth = 1
		for n, b := (prime-1)/8, x; n > 0; n /= 2 {
			if n%2 == 1 {
				eighth = eighth * b % prime
			}
			b = b * b % prime
		}
		if powerOf(eighth, 4) == prime-1 {
			break
		}
	}
	root := (eighth + prime - powerOf(eighth, 3)) % prime
	return eighth, root * ((prime + 1) / 2) % prime
}

// branch is where a run is: what was found by which gates, bits and amplitudes.
type branch struct {
	found []string
	bits  int
	state []int
}

// runner runs circuits.
type runner struct{ w, half int }

func newRunner() runner {
	w, half := roots()
	return runner{w, half}
}

// amplitudes tells where a basis state is taken by a plain gate: basis states and their amplitudes.
func (r runner) amplitudes(g api.Gate, x int) map[int]int {
	of := func(k int) int { return x >> g.Wires[k] & 1 }
	flip := func(k int) int { return x ^ 1<<g.Wires[k] }
	turn := func(power int) map[int]int { return map[int]int{x: powerOf(r.w, power)} }
	switch g.Kind {
	case api.X:
		return map[int]int{flip(0): 1}
	case api.Y:
		return map[int]int{flip(0): powerOf(r.w, 2+4*of(0))}
	case api.Z:
		return turn(4 * of(0))
	case api.H:
		return map[int]int{x &^ (1 << g.Wires[0]): r.half, x | 1<<g.Wires[0]: r.half * powerOf(r.w, 4*of(0)) % prime}
	case api.S:
		return turn(2 * of(0))
	case api.Sd:
		return turn(6 * of(0))
	case api.T:
		return turn(of(0))
	case api.Td:
		return turn(7 * of(0))
	case api.CX:
		if of(0) == 1 {
			return map[int]int{flip(1): 1}
		}
	case api.CZ:
		return turn(4 * of(0) * of(1))
	case api.Swap:
		if of(0) != of(1) {
			return map[int]int{flip(0) ^ 1<<g.Wires[1]: 1}
		}
	case api.CCX:
		if of(0)*of(1) == 1 {
			return map[int]int{flip(2): 1}
		}
	}
	return turn(0)
}

// apply is the state behind a plain gate.
func (r runner) apply(g api.Gate, state []int) []int {
	next := make([]int, len(state))
	for x, a := range state {
		if a != 0 {
			for y, b := range r.amplitudes(g, x) {
				next[y] = (next[y] + a*b) % prime
			}
		}
	}
	return next
}

// find is the branch in which a Measure, or a Reset, finds an outcome.
func (r runner) find(b branch, g api.Gate, outcome int) branch {
	state := make([]int, len(b.state))
	for x, a := range b.state {
		if x>>g.Wires[0]&1 == outcome {
			state[x] = a
		}
	}
	// The same Measures, or Resets, do not commute, so that their number among them tells which one this is.
	name := fmt.Sprint(g.Kind, g.Wires, g.Bit)
	times := 0
	for _, f := range b.found {
		if strings.HasPrefix(f, name) {
			times++
		}
	}
	next := branch{append(slices.Clone(b.found), fmt.Sprint(name, " ", times, ": ", outcome)), b.bits, state}
	if g.Kind == api.Measure {
		next.bits = b.bits&^(1<<g.Bit) | outcome<<g.Bit
	} else if outcome == 1 {
		next.state = r.apply(on(api.X, g.Wires[0]), state)
	}
	return next
}

// run tells all branches of a circuit, from a basis state and bits.
func (r runner) run(c api.Circuit, in, bits int) []string {
	state := make([]int, 1<<c.Wires)
	state[in] = 1
	branches := []branch{{nil, bits, state}}
	for _, g := range c.Gates {
		var next []branch
		for _, b := range branches {
			switch {
			case g.Kind == api.Measure || g.Kind == api.Reset:
				next = append(next, r.find(b, g, 0), r.find(b, g, 1))
			case g.If == 0 || b.bits>>(g.If-1)&1 == 1:
				b.state = r.apply(g, b.state)
				next = append(next, b)
			default:
				next = append(next, b)
			}
		}
		branches = next
	}
	var l []string
	for _, b := range branches {
		slices.Sort(b.found)
		l = append(l, fmt.Sprint(b.found, b.bits, b.state))
	}
	slices.Sort(l)
	return l
}

// doTheSame tells whether two circuits do the same on every state and all bits, for every outcome.
func (r runner) doTheSame(c, d api.Circuit) bool {
	for in := range 1 << c.Wires {
		for bits := range 1 << c.Bits {
			if !slices.Equal(r.run(c, in, bits), r.run(d, in, bits)) {
				return false
			}
		}
	}
	return c.Wires == d.Wires && c.Bits == d.Bits
}

// Samples.

// source makes gates and circuits, always the same ones.
type source struct{ *rand.Rand }

// from is a source.
func from(seed int64) source { return source{rand.New(rand.NewSource(seed))} }

// arities are those of the kinds, from 0 on.
var arities = []int{0, 1, 1, 1, 1, 1, 1, 1, 1, 2, 2, 2, 3, 1, 1}

// gate is a right gate of a kind from 1 to last, if it has room; finding tells whether it may find something.
func (s source) gate(wires, bits, last int, finding bool) api.Gate {
	kind := 1 + s.Intn(last)
	for arities[kind] > wires || kind == api.Measure && bits == 0 || kind >= api.Measure && !finding {
		kind = 1 + s.Intn(last)
	}
	g := on(kind, s.Perm(wires)[:arities[kind]]...)
	switch {
	case kind == api.Measure:
		g.Bit = s.Intn(bits)
	case kind < api.Measure && s.Intn(3) == 0:
		g.If = s.Intn(bits + 1)
	}
	return g
}

// circuit is a right circuit, with at most as many gates that find something; often a gate undoes one before it.
func (s source) circuit(wires, bits, gates, finding int) api.Circuit {
	c := circuit(wires, bits)
	for range gates {
		g := s.gate(wires, bits, api.Reset, finding > 0)
		if g.Kind >= api.Measure {
			finding--
		}
		if len(c.Gates) > 0 && s.Intn(3) == 0 {
			if last := c.Gates[s.Intn(len(c.Gates))]; last.Kind < api.Measure {
				g = s.undo(last)
			}
		}
		c.Gates = append(c.Gates, g)
	}
	return c
}

// plain is a plain circuit.
func (s source) plain(wires, gates int) api.Circuit {
	c := circuit(wires, 0)
	for len(c.Gates) < gates {
		if g := s.gate(wires, 0, api.CCX, false); len(c.Gates) > 0 && s.Intn(3) == 0 {
			c.Gates = append(c.Gates, s.undo(c.Gates[s.Intn(len(c.Gates))]))
		} else {
			c.Gates = append(c.Gates, g)
		}
	}
	return c
}

// undo is a gate that undoes another one, often with wires that have changed places.
func (s source) undo(g api.Gate) api.Gate {
	g.Wires = slices.Clone(g.Wires)
	switch g.Kind {
	case api.S, api.T:
		g.Kind++
	case api.Sd, api.Td:
		g.Kind--
	case api.CZ, api.Swap, api.CCX:
		if s.Intn(2) == 0 {
			g.Wires[0], g.Wires[1] = g.Wires[1], g.Wires[0]
		}
	}
	return g
}

// allGates are all right gates on wires and bits.
func allGates(wires, bits int) []api.Gate {
	var l []api.Gate
	var put func(kind int, own []int)
	put = func(kind int, own []int) {
		if len(own) < arities[kind] {
			for wire := range wires {
				if !slices.Contains(own, wire) {
					put(kind, append(slices.Clone(own), wire))
				}
			}
			return
		}
		switch kind {
		case api.Measure:
			for bit := range bits {
				l = append(l, look(own[0], bit))
			}
		case api.Reset:
			l = append(l, on(kind, own...))
		default:
			for n := range bits + 1 {
				l = append(l, when(n, kind, own...))
			}
		}
	}
	for kind := api.X; kind <= api.Reset; kind++ {
		put(kind, nil)
	}
	return l
}

// wrong is a circuit that is not right, with its error.
type wrong struct {
	c api.Circuit
	e api.Errno
}

// wrongGate is a gate that is not right on three wires and two bits, with its error.
type wrongGate struct {
	g api.Gate
	e api.Errno
}

// wrongGates have each error alone, and before those that come after it.
func wrongGates() []wrongGate {
	return []wrongGate{
		{api.Gate{}, api.ErrRange},
		{on(0, 0), api.ErrRange},
		{on(15, 0), api.ErrRange},
		{on(-1, 0), api.ErrRange},
		{on(greatest, 0), api.ErrRange},
		{on(smallest, 0), api.ErrRange},
		{api.Gate{Kind: 15, Wires: []int{9, 9}, Bit: 7, If: 7}, api.ErrRange},
		{on(api.X), api.ErrMany},
		{on(api.X, 0, 1), api.ErrMany},
		{on(api.CX, 0), api.ErrMany},
		{on(api.Swap, 0, 1, 2), api.ErrMany},
		{on(api.CCX, 0, 1), api.ErrMany},
		{on(api.CCX, 0, 1, 2, 0), api.ErrMany},
		{on(api.Measure), api.ErrMany},
		{on(api.Reset, 0, 1), api.ErrMany},
		{api.Gate{Kind: api.X, Wires: []int{9, 9}, Bit: 7, If: 7}, api.ErrMany},
		{on(api.H, 3), api.ErrNot},
		{on(api.H, -1), api.ErrNot},
		{on(api.H, greatest), api.ErrNot},
		{on(api.H, smallest), api.ErrNot},
		{on(api.CZ, 3, 3), api.ErrNot},
		{on(api.CZ, -1, -1), api.ErrNot},
		{on(api.CCX, 1, 1, 3), api.ErrNot},
		{on(api.CCX, 0, 12, 1), api.ErrNot},
		{on(api.CX, 1, 1), api.ErrTwice},
		{on(api.CCX, 1, 2, 1), api.ErrTwice},
		{on(api.CCX, 0, 1, 1), api.ErrTwice},
		{on(api.CCX, 2, 2, 1), api.ErrTwice},
		{when(3, api.CX, 1, 1), api.ErrTwice},
		{when(-1, api.CX, 1, 1), api.ErrTwice},
		{api.Gate{Kind: api.CX, Wires: []int{1, 1}, Bit: 1}, api.ErrTwice},
		{when(3, api.X, 0), api.ErrNot},
		{when(-1, api.X, 0), api.ErrNot},
		{when(greatest, api.X, 0), api.ErrNot},
		{when(smallest, api.X, 0), api.ErrNot},
		{when(3, api.Measure, 0), api.ErrNot},
		{when(-1, api.Reset, 0), api.ErrNot},
		{api.Gate{Kind: api.X, Wires: []int{0}, Bit: 1, If: 3}, api.ErrNot},
		{look(0, 2), api.ErrNot},
		{look(0, -1), api.ErrNot},
		{look(0, greatest), api.ErrNot},
		{look(0, smallest), api.ErrNot},
		{api.Gate{Kind: api.Measure, Wires: []int{0}, Bit: 2, If: 1}, api.ErrNot},
		{when(1, api.Measure, 0), api.ErrClash},
		{when(2, api.Reset, 0), api.ErrClash},
		{api.Gate{Kind: api.X, Wires: []int{0}, Bit: 1}, api.ErrClash},
		{api.Gate{Kind: api.X, Wires: []int{0}, Bit: -1}, api.ErrClash},
		{api.Gate{Kind: api.Reset, Wires: []int{0}, Bit: 7}, api.ErrClash},
		{api.Gate{Kind: api.CX, Wires: []int{0, 1}, Bit: 1, If: 2}, api.ErrClash},
	}
}

// wrongCircuits are circuits with each error, also beside others that come after it.
func wrongCircuits() []wrong {
	bad := on(0)
	many := slices.Repeat([]api.Gate{bad}, api.MaxGates+1)
	l := []wrong{
		{api.Circuit{}, api.ErrRange},
		{circuit(0, 0), api.ErrRange},
		{circuit(-1, 0), api.ErrRange},
		{circuit(13, 0), api.ErrRange},
		{circuit(greatest, 0), api.ErrRange},
		{circuit(smallest, 0), api.ErrRange},
		{circuit(1, -1), api.ErrRange},
		{circuit(1, 9), api.ErrRange},
		{circuit(1, greatest), api.ErrRange},
		{circuit(1, smallest), api.ErrRange},
		{circuit(0, 9, many...), api.ErrRange},
		{circuit(3, 9, many...), api.ErrRange},
		{three(many...), api.ErrMany},
		{three(slices.Repeat([]api.Gate{on(api.X, 0)}, api.MaxGates+1)...), api.ErrMany},
		{circuit(1, 0, look(0, 0)), api.ErrNot},
		{circuit(1, 0, when(1, api.X, 0)), api.ErrNot},
		{circuit(12, 8, on(api.X, 12)), api.ErrNot},
		{circuit(12, 8, look(11, 8)), api.ErrNot},
		{circuit(12, 8, when(9, api.X, 11)), api.ErrNot},
		{three(slices.Concat(slices.Repeat([]api.Gate{on(api.X, 0)}, api.MaxGates-1), []api.Gate{on(api.CX, 2, 2)})...), api.ErrTwice},
	}
	for _, x := range wrongGates() {
		l = append(l, wrong{three(x.g), x.e}, wrong{three(on(api.H, 0), x.g, bad), x.e}, wrong{three(x.g, on(api.Swap, 1, 1), on(99)), x.e})
	}
	return l
}

// call is a function of a circuit, with what else it takes already chosen.
type call struct {
	name string
	do   func(c api.Circuit) (any, api.Errno)
}

// calls are all functions that return the error of Check first, for a circuit at each of their places; what else they
// take is d, l, i and j.
func calls(d api.Circuit, l []int, i, j int) []call {
	one := circuit(1, 0)
	return []call{
		{"Plain", func(c api.Circuit) (any, api.Errno) { r, e := Plain(c); return r, e }},
		{"Compose, first", func(c api.Circuit) (any, api.Errno) { r, e := Compose(c, d); return r, e }},
		{"Compose, second", func(c api.Circuit) (any, api.Errno) { r, e := Compose(one, c); return r, e }},
		{"Inverse", func(c api.Circuit) (any, api.Errno) { r, e := Inverse(c); return r, e }},
		{"Relabel", func(c api.Circuit) (any, api.Errno) { r, e := Relabel(c, l); return r, e }},
		{"Widen", func(c api.Circuit) (any, api.Errno) { r, e := Widen(c, i, j); return r, e }},
		{"Slice", func(c api.Circuit) (any, api.Errno) { r, e := Slice(c, i, j); return r, e }},
		{"Layers", func(c api.Circuit) (any, api.Errno) { r, e := Layers(c); return r, e }},
		{"Depth", func(c api.Circuit) (any, api.Errno) { r, e := Depth(c); return r, e }},
		{"Count", func(c api.Circuit) (any, api.Errno) { r, e := Count(c); return r, e }},
		{"Used", func(c api.Circuit) (any, api.Errno) { r, e := Used(c); return r, e }},
		{"Commute", func(c api.Circuit) (any, api.Errno) { r, e := Commute(c, i, j); return r, e }},
		{"Undo", func(c api.Circuit) (any, api.Errno) { r, e := Undo(c, i, j); return r, e }},
		{"Tidy", func(c api.Circuit) (any, api.Errno) { r, e := Tidy(c); return r, e }},
		{"Equal, first", func(c api.Circuit) (any, api.Errno) { r, e := Equal(c, d); return r, e }},
		{"Equal, second", func(c api.Circuit) (any, api.Errno) { r, e := Equal(one, c); return r, e }},
		{"Cancel", func(c api.Circuit) (any, api.Errno) { r, e := Cancel(c); return r, e }},
	}
}

// isZero reports whether a result is 0, false, an empty list, no counts, or no circuit.
func isZero(x any) bool {
	return slices.Contains([]string{"0", "false", "[]", "{0 0 []}", fmt.Sprint([14]int{})}, fmt.Sprint(x))
}

package affine

import (
	"fmt"
	"math/rand"
	"slices"
	"testing"

	"spoondrift/api"
)

// The greatest integer, and the smallest one.
const (
	greatest = 1<<63 - 1
	smallest = -1 << 63
)

// on is a gate on wires.
func on(kind int, wires ...int) api.Gate { return api.Gate{Kind: kind, Wires: wires} }

// circuit is gates on wires.
func circuit(wires int, gates ...api.Gate) api.Circuit {
	return api.Circuit{Wires: wires, Gates: gates}
}

// rows is the map of rows with a shift.
func rows(shift int, l ...int) api.Affine {
	return api.Affine{Wires: len(l), Rows: l, Shift: shift}
}

// bit is the bit k of x, 0 or 1, for x not below 0.
func bit(x, k int) int { return x / (1 << k) % 2 }

// The words of the chapter, as they are said there.

// goes is the basis state to which a map takes x.
func goes(m api.Affine, x int) int {
	y := 0
	for i, row := range m.Rows {
		common := 0
		for k := range m.Wires {
			common += bit(x, k) * bit(row, k)
		}
		y += (common + bit(m.Shift, i)) % 2 * (1 << i)
	}
	return y
}

// does is what the gates of a circuit do to x.
func does(c api.Circuit, x int) int {
	wires := make([]bool, c.Wires)
	for k := range wires {
		wires[k] = bit(x, k) == 1
	}
	for _, g := range c.Gates {
		switch a := g.Wires[0]; g.Kind {
		case api.X:
			wires[a] = !wires[a]
		case api.CX:
			wires[g.Wires[1]] = wires[g.Wires[1]] != wires[a]
		case api.Swap:
			wires[a], wires[g.Wires[1]] = wires[g.Wires[1]], wires[a]
		default:
			panic(g.Kind)
		}
	}
	y := 0
	for k, is := range wires {
		if is {
			y += 1 << k
		}
	}
	return y
}

// mapOf is the map of a circuit, however long it is: as 0 and the basis states tell it that have one 1.
func mapOf(c api.Circuit) api.Affine {
	m := api.Affine{Wires: c.Wires, Rows: make([]int, c.Wires), Shift: does(c, 0)}
	for k := range c.Wires {
		for i, y := 0, does(c, 1<<k); i < c.Wires; i++ {
			m.Rows[i] += (bit(y, i) + bit(m.Shift, i)) % 2 * (1 << k)
		}
	}
	return m
}

// permuted are the basis states to which a map takes 0, 1 and so on.
func permuted(m api.Affine) []int {
	l := make([]int, 1<<m.Wires)
	for x := range l {
		l[x] = goes(m, x)
	}
	return l
}

// isRight reports whether a map takes different basis states to different ones, as only rows do that can be inverted.
func isRight(m api.Affine) bool {
	l := permuted(m)
	slices.Sort(l)
	return len(slices.Compact(l)) == 1<<m.Wires
}

// digits are the n numbers from 0 to base - 1 that number has, the first one the most.
func digits(number, base, n int) []int {
	l := make([]int, n)
	for i := range l {
		l[n-1-i] = number % base
		number /= base
	}
	return l
}

// allMaps are all right maps of at most three wires, in order.
func allMaps(wires int) []api.Affine {
	var l []api.Affine
	base, count := 1<<wires, 1
	for range wires + 1 {
		count *= base
	}
	for number := range count {
		d := digits(number, base, wires+1)
		if m := rows(d[wires], d[:wires]...); isRight(m) {
			l = append(l, m)
		}
	}
	return l
}

// canonical is the canonical circuit, however long it is.
func canonical(m api.Affine) api.Circuit {
	r := slices.Clone(m.Rows)
	c := circuit(m.Wires)
	tell := func(j, k int) {
		for column := range m.Wires {
			r[k] += (bit(r[k], column)+bit(r[j], column))%2*(1<<column) - bit(r[k], column)*(1<<column)
		}
		c.Gates = slices.Insert(c.Gates, 0, on(api.CX, j, k))
	}
	for k := 0; k < m.Wires; k++ {
		if bit(r[k], k) == 0 {
			j := k + 1
			for bit(r[j], k) == 0 {
				j++
			}
			tell(j, k)
		}
		for i := 0; i < m.Wires; i++ {
			if i != k && bit(r[i], k) == 1 {
				tell(k, i)
			}
		}
	}
	for k := 0; k < m.Wires; k++ {
		if bit(m.Shift, k) == 1 {
			c.Gates = append(c.Gates, on(api.X, k))
		}
	}
	return c
}

// smallGates are the small gates, in order.
func smallGates(wires int) []api.Gate {
	return [][]api.Gate{
		1: {on(api.X, 0)},
		2: {on(api.X, 0), on(api.X, 1), on(api.CX, 0, 1), on(api.CX, 1, 0), on(api.Swap, 0, 1)},
		3: {
			on(api.X, 0), on(api.X, 1), on(api.X, 2),
			on(api.CX, 0, 1), on(api.CX, 0, 2), on(api.CX, 1, 0), on(api.CX, 1, 2), on(api.CX, 2, 0), on(api.CX, 2, 1),
			on(api.Swap, 0, 1), on(api.Swap, 0, 2), on(api.Swap, 1, 2),
		},
	}[wires]
}

// source makes samples, always the same ones.
type source struct{ *rand.Rand }

// from is a source.
func from(seed int64) source { return source{rand.New(rand.NewSource(seed))} }

// circuit is any affine circuit.
func (s source) circuit(wires, gates int) api.Circuit {
	c := circuit(wires)
	for range gates {
		l := s.Perm(wires)
		switch n := s.Intn(8); {
		case n < 2 || wires == 1:
			c.Gates = append(c.Gates, on(api.X, l[0]))
		case n < 7:
			c.Gates = append(c.Gates, on(api.CX, l[0], l[1]))
		default:
			c.Gates = append(c.Gates, on(api.Swap, l[0], l[1]))
		}
	}
	return c
}

// affine is any right map.
func (s source) affine(wires int) api.Affine {
	for {
		m := rows(s.Intn(1 << wires))
		m.Wires = wires
		for range wires {
			m.Rows = append(m.Rows, s.Intn(1<<wires))
		}
		if isRight(m) {
			return m
		}
	}
}

// textOf tells all of a value; nil and an empty list are the same.
func textOf(x any) string { return fmt.Sprintf("%+v", x) }

// want fails the test if a result is not the one that is wanted.
func want(t *testing.T, what, got any, e api.Errno, wanted any, f api.Errno) {
	t.Helper()
	if textOf(got) != textOf(wanted) || e != f {
		t.Errorf("%v: %v, error %d; want %v, error %d", what, got, e, wanted, f)
	}
}

// must returns a result that has no error.
func must[T any](result T, e api.Errno) T {
	if e != api.OK {
		panic(e)
	}
	return result
}

// call is a function of a map, with what else it takes already chosen.
type call struct {
	name string
	do   func(m api.Affine) (any, api.Errno)
}

// calls are all functions of maps that have errors, for a map at each of their places; where a map comes before it,
// that is a right one.
func calls(other api.Affine, x int) []call {
	return []call{
		{"Check", func(m api.Affine) (any, api.Errno) { return 0, Check(m) }},
		{"Apply", func(m api.Affine) (any, api.Errno) { r, e := Apply(m, x); return r, e }},
		{"Compose, first", func(m api.Affine) (any, api.Errno) { r, e := Compose(m, other); return r, e }},
		{"Compose, second", func(m api.Affine) (any, api.Errno) { r, e := Compose(rows(0, 1), m); return r, e }},
		{"Inverse", func(m api.Affine) (any, api.Errno) { r, e := Inverse(m); return r, e }},
		{"Order", func(m api.Affine) (any, api.Errno) { r, e := Order(m); return r, e }},
		{"Fixed", func(m api.Affine) (any, api.Errno) { r, x, e := Fixed(m); return fixed{r, x}, e }},
		{"Circuit", func(m api.Affine) (any, api.Errno) { r, e := Circuit(m); return r, e }},
		{"Number", func(m api.Affine) (any, api.Errno) { r, e := Number(m); return r, e }},
		{"Shortest", func(m api.Affine) (any, api.Errno) { r, e := Shortest(m); return r, e }},
	}
}

// fixed is what Fixed returns.
type fixed struct {
	rows []int
	x    int
}

// isZero reports whether a result is zero.
func isZero(x any) bool {
	for _, zero := range []any{0, false, []int(nil), [][]int(nil), fixed{}, api.Affine{}, api.Circuit{}} {
		if fmt.Sprintf("%T", x) == fmt.Sprintf("%T", zero) {
			return textOf(x) == textOf(zero)
		}
	}
	return false
}

// wrongMaps are maps that are not right, with their errors.
func wrongMaps() []struct {
	m api.Affine
	e api.Errno
} {
	wide := api.Affine{Wires: 12, Rows: make([]int, 12)}
	for k := range wide.Rows {
		wide.Rows[k] = 1 << k
	}
	with := func(i, row, shift int) api.Affine {
		m := wide
		m.Rows = slices.Clone(wide.Rows)
		m.Rows[i], m.Shift = row, shift
		return m
	}
	return []struct {
		m api.Affine
		e api.Errno
	}{
		{api.Affine{}, api.ErrRange},
		{api.Affine{Wires: -1, Rows: []int{-1}, Shift: -1}, api.ErrRange},
		{api.Affine{Wires: 13, Rows: append(slices.Clone(wide.Rows), 1<<12)}, api.ErrRange},
		{api.Affine{Wires: 64, Rows: make([]int, 64)}, api.ErrRange},
		{api.Affine{Wires: greatest, Rows: []int{1}}, api.ErrRange},
		{api.Affine{Wires: smallest}, api.ErrRange},
		{api.Affine{Wires: 0, Rows: []int{7}, Shift: 9}, api.ErrRange},
		{api.Affine{Wires: 1}, api.ErrMany},
		{api.Affine{Wires: 1, Rows: []int{1, 2}}, api.ErrMany},
		{api.Affine{Wires: 2, Rows: []int{-1}, Shift: -1}, api.ErrMany},
		{api.Affine{Wires: 12, Rows: wide.Rows[:11]}, api.ErrMany},
		{api.Affine{Wires: 11, Rows: wide.Rows}, api.ErrMany},
		{api.Affine{Wires: 3, Rows: make([]int, 100), Shift: 8}, api.ErrMany},
		{rows(0, 2), api.ErrForm},
		{rows(0, -1), api.ErrForm},
		{rows(2, 1), api.ErrForm},
		{rows(-1, 1), api.ErrForm},
		{rows(0, 1, 4), api.ErrForm},
		{rows(4, 1, 2), api.ErrForm},
		{rows(smallest, 1, 2), api.ErrForm},
		{rows(greatest, 1, 2), api.ErrForm},
		{rows(0, 4, 4), api.ErrForm},
		{rows(0, 0, -1), api.ErrForm},
		{rows(4, 1, 1), api.ErrForm},
		{rows(-1, 0, 0), api.ErrForm},
		{with(11, 4096, 0), api.ErrForm},
		{with(0, greatest, 0), api.ErrForm},
		{with(0, 1, 4096), api.ErrForm},
		{rows(0, 0), api.ErrNone},
		{rows(1, 0), api.ErrNone},
		{rows(0, 1, 1), api.ErrNone},
		{rows(3, 3, 0), api.ErrNone},
		{rows(0, 3, 5, 6), api.ErrNone},
		{rows(0, 1, 2, 4, 7), api.ErrNone},
		{rows(9, 3, 6, 12, 9), api.ErrNone},
		{with(11, 0, 0), api.ErrNone},
		{with(5, 2047&^32, 4095), api.ErrNone},
	}
}

// wrongCircuits are circuits that have no map, with their errors.
func wrongCircuits() []struct {
	c api.Circuit
	e api.Errno
} {
	two := func(gates ...api.Gate) api.Circuit { return api.Circuit{Wires: 2, Bits: 2, Gates: gates} }
	h, x := on(api.H, 0), on(api.X, 1)
	when := func(n, kind int, wires ...int) api.Gate {
		return api.Gate{Kind: kind, Wires: wires, If: n}
	}
	many := slices.Repeat([]api.Gate{x}, api.MaxGates+1)
	return []struct {
		c api.Circuit
		e api.Errno
	}{
		{api.Circuit{}, api.ErrRange},
		{circuit(-1, h), api.ErrRange},
		{circuit(13), api.ErrRange},
		{api.Circuit{Wires: 1, Bits: 9}, api.ErrRange},
		{api.Circuit{Wires: 1, Bits: -1, Gates: many}, api.ErrRange},
		{two(many...), api.ErrMany},
		{two(append([]api.Gate{h}, many...)...), api.ErrMany},
		{two(h, on(15, 0)), api.ErrRange},
		{two(on(0, 0)), api.ErrRange},
		{two(on(-1, 0)), api.ErrRange},
		{two(h, on(api.X)), api.ErrMany},
		{two(on(api.X, 0, 1)), api.ErrMany},
		{two(on(api.CX, 0)), api.ErrMany},
		{two(h, on(api.CX, 0, 2)), api.ErrNot},
		{two(on(api.Swap, -1, 0)), api.ErrNot},
		{two(h, on(api.CX, 1, 1)), api.ErrTwice},
		{two(on(api.Swap, 0, 0)), api.ErrTwice},
		{two(h, when(3, api.X, 0)), api.ErrNot},
		{two(api.Gate{Kind: api.X, Wires: []int{0}, Bit: 1}), api.ErrClash},
		{two(h), api.ErrForm},
		{two(x, x, h), api.ErrForm},
		{two(x, on(api.Y, 0)), api.ErrForm},
		{two(on(api.Z, 1), x), api.ErrForm},
		{two(on(api.S, 1)), api.ErrForm},
		{two(on(api.Sd, 1)), api.ErrForm},
		{two(on(api.T, 1)), api.ErrForm},
		{two(on(api.Td, 1)), api.ErrForm},
		{two(on(api.CZ, 1, 0)), api.ErrForm},
		{circuit(3, on(api.CCX, 1, 0, 2)), api.ErrForm},
		{two(on(api.Measure, 1)), api.ErrForm},
		{two(on(api.Reset, 1)), api.ErrForm},
		{two(when(1, api.X, 0)), api.ErrForm},
		{two(x, when(2, api.CX, 0, 1)), api.ErrForm},
		{two(when(2, api.Swap, 0, 1), x), api.ErrForm},
	}
}

package affine

import (
	"slices"
	"testing"

	"spoondrift/api"
)

// P7.2: the map of a circuit, with all kinds of gates on all wires, up to the limits; its Bits change nothing.
func TestOf(t *testing.T) {
	for wires := 1; wires <= 3; wires++ {
		for _, g := range smallGates(wires) {
			for _, h := range append(smallGates(wires), on(api.Swap, wires-1, 0)) {
				if wires > 1 || h.Kind == api.X {
					c := circuit(wires, g, h)
					m, e := Of(c)
					want(t, c, m, e, mapOf(c), api.OK)
				}
			}
		}
	}
	s := from(7)
	for i := range 240 {
		c := s.circuit(1+i%api.MaxWires, s.Intn(api.MaxGates+1))
		c.Bits = i % 9
		m, e := Of(c)
		want(t, c, m, e, mapOf(c), api.OK)
	}
	c := s.circuit(12, api.MaxGates)
	m, e := Of(c)
	want(t, c, m, e, mapOf(c), api.OK)
	m, e = Of(api.Circuit{Wires: 4, Gates: []api.Gate{}})
	want(t, "no gates", m, e, rows(0, 1, 2, 4, 8), api.OK)
}

// P7.2: a map is what its circuit does to all basis states.
func TestOfIsWhatGatesDo(t *testing.T) {
	s := from(8)
	for i := range 120 {
		c := s.circuit(1+i%api.MaxWires, s.Intn(60))
		m := must(Of(c))
		for x, y := range permuted(m) {
			if y != does(c, x) {
				t.Fatal(c, m, x, y)
			}
		}
	}
}

// P7.2: the errors of circuits, and then nothing else.
func TestWrongCircuits(t *testing.T) {
	for i, x := range wrongCircuits() {
		m, e := Of(x.c)
		want(t, i, m, e, api.Affine{}, x.e)
		l, e := Parities(x.c)
		want(t, i, l, e, [][]int(nil), x.e)
	}
}

// P7.2: what all wires have, for the beginning and behind each gate.
func TestParities(t *testing.T) {
	s := from(9)
	for i := range 120 {
		wires := 1 + i%api.MaxWires
		c := s.circuit(wires, s.Intn(40))
		c.Bits = i % 9
		var wanted [][]int
		for n := range len(c.Gates) + 1 {
			m := mapOf(circuit(wires, c.Gates[:n]...))
			for k := range m.Rows {
				m.Rows[k] += bit(m.Shift, k) * (1 << wires)
			}
			wanted = append(wanted, m.Rows)
		}
		l, e := Parities(c)
		want(t, c, l, e, wanted, api.OK)
	}
	l, e := Parities(circuit(12, slices.Repeat([]api.Gate{on(api.X, 11)}, api.MaxGates)...))
	if e != api.OK || len(l) != api.MaxGates+1 || l[119][11] != 1<<12+1<<11 || l[120][11] != 1<<11 {
		t.Error(l, e)
	}
}

// P7.4: the canonical circuit, by the words of the chapter.
func TestCircuit(t *testing.T) {
	for wires := 1; wires <= 3; wires++ {
		for _, m := range allMaps(wires) {
			c, e := Circuit(m)
			want(t, m, c, e, canonical(m), api.OK)
		}
	}
	s := from(10)
	for i := range 360 {
		wires := 1 + i%api.MaxWires
		for _, m := range []api.Affine{s.affine(wires), mapOf(s.circuit(wires, i/20))} {
			c, e := Circuit(m)
			if wanted := canonical(m); len(wanted.Gates) <= api.MaxGates {
				want(t, m, c, e, wanted, api.OK)
			} else {
				want(t, m, c, e, api.Circuit{}, api.ErrLong)
			}
		}
	}
}

// column is what is told for the column k of 12 wires, so many gates, from the last one to the first one: row k is added to
// any other rows at all, and may have got the first one of these behind it before.
func (s source) column(k, told int) []api.Gate {
	for {
		first := s.Intn(2)
		if first > told || told-first > 11 {
			continue
		}
		added := slices.DeleteFunc(s.Perm(12), func(i int) bool { return i == k })[:told-first]
		slices.Sort(added)
		var gates []api.Gate
		for _, i := range slices.Backward(added) {
			gates = append(gates, on(api.CX, k, i))
		}
		if first == 0 {
			return gates
		}
		if j := slices.IndexFunc(added, func(i int) bool { return i > k }); j >= 0 {
			return append(gates, on(api.CX, added[j], k))
		}
	}
}

// sized is a canonical circuit of 12 wires with so many gates, at most 155.
func (s source) sized(gates int) api.Circuit {
	turns := s.Intn(13)
	for gates-turns > 143 {
		turns = s.Intn(13)
	}
	var told [12]int
	for range gates - turns {
		k := s.Intn(12)
		for told[k] == min(12, 22-k) { // no row is behind the last one
			k = s.Intn(12)
		}
		told[k]++
	}
	c := circuit(12)
	for k := 11; k >= 0; k-- {
		c.Gates = append(c.Gates, s.column(k, told[k])...)
	}
	wires := s.Perm(12)[:turns]
	slices.Sort(wires)
	for _, k := range wires {
		c.Gates = append(c.Gates, on(api.X, k))
	}
	return c
}

// P7.4: circuits of just as many gates as are allowed, and of one more; the X gates count, too.
func TestCircuitTooLong(t *testing.T) {
	s := from(11)
	for gates := 90; gates <= 155; gates++ {
		for range 4 {
			c := s.sized(gates)
			m := mapOf(c)
			want(t, m, canonical(m), api.OK, c, api.OK)
			if len(c.Gates) != gates {
				t.Fatal(gates, len(c.Gates))
			}
			got, e := Circuit(m)
			if gates <= api.MaxGates {
				want(t, m, got, e, c, api.OK)
			} else {
				want(t, m, got, e, api.Circuit{}, api.ErrLong)
			}
		}
	}
}

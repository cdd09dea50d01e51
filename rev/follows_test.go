package rev

import (
	"slices"
	"testing"

	"spoondrift/api"
	"spoondrift/circ"
)

// P8.6: each table is a permutation, and that of a circuit backwards undoes it.
func TestTableIsPermutation(t *testing.T) {
	s := from(13)
	for i := range 120 {
		c := s.circuit(1+i%api.MaxWires, s.Intn(api.MaxGates+1))
		there := must(Table(c))
		back := must(Table(must(circ.Inverse(c))))
		for state, made := range there {
			if back[made] != state || there[back[state]] != state {
				t.Fatal(c, state)
			}
		}
		sorted := slices.Sorted(slices.Values(there))
		for state, made := range sorted {
			if state != made {
				t.Fatal(c, sorted)
			}
		}
		if c.Wires <= MaxWide {
			wide, e := Wide(there)
			want(t, c, wide, e, c.Wires, api.OK)
		}
	}
}

// P8.6: a compiled expression has its value on every input: its wire is turned just if it is true, all variables come
// out as they went in, and all free wires are given back clean.
func TestCompiledHasValue(t *testing.T) {
	wantValue := func(e api.Bool, vars int) {
		t.Helper()
		c, f := Compile(e, vars)
		if f != api.OK {
			return
		}
		for state := range 1 << (vars + 1) {
			wanted := state
			if must(Eval(e, vars, state%(1<<vars))) {
				wanted ^= 1 << vars
			}
			if made := must(Apply(c, state)); made != wanted {
				t.Fatal(e, c, state, made, wanted)
			}
		}
		var free []int
		for k := vars + 1; k < c.Wires; k++ {
			free = append(free, k)
		}
		state, f := Clean(c, free)
		want(t, e, state, f, 0, api.ErrNone)
	}
	for size := 1; size <= 5; size++ {
		for _, e := range expressions(size, 2) {
			wantValue(e, 2)
		}
	}
	s := from(14)
	for i := range 600 {
		vars := 1 + i%MaxVars
		wantValue(s.expression(1+s.Intn(MaxBool), vars), vars)
	}
}

// P8.6: the circuit of a permutation has its table.
func TestCircuitHasTable(t *testing.T) {
	for _, n := range []int{2, 4, 8} {
		for i, p := range permutations(n) {
			if n < 8 || i%7 == 0 {
				table, e := Table(must(Circuit(p)))
				want(t, p, table, e, p, api.OK)
			}
		}
	}
}

// P8.6: no circuit has fewer gates than that of Shortest, also not the circuit of its table.
func TestNoFewerGates(t *testing.T) {
	s := from(15)
	for range 400 {
		wires := 1 + s.Intn(MaxWide)
		c := circuit(wires)
		for range s.Intn(MaxLeast + 1) {
			gates := turnsOf(wires)
			c.Gates = append(c.Gates, gates[s.Intn(len(gates))])
		}
		p := must(Table(c))
		short, e := Shortest(p, len(c.Gates))
		is, f := Same(c, short)
		if e != api.OK || f != api.OK || !is || len(short.Gates) > len(c.Gates) || len(short.Gates) > len(must(Circuit(p)).Gates) {
			t.Error(c, short, e, f)
		}
		if len(short.Gates) > 0 {
			less, e := Shortest(p, len(short.Gates)-1)
			want(t, p, less, e, api.Circuit{}, api.ErrNone)
		}
	}
}

// P8.6: the numbers that Count tells add up: so many permutations have a shortest circuit.
func TestCountsAddUp(t *testing.T) {
	for wires := 1; wires <= MaxWide; wires++ {
		most := MaxLeast
		if wires == MaxWide {
			most = 1
		}
		sum := 0
		for gates := range most + 1 {
			sum += must(Count(wires, gates))
		}
		there := 0
		for _, p := range permutations(1 << wires) {
			if _, e := Shortest(p, most); e == api.OK {
				there++
			}
		}
		if sum != there {
			t.Error(wires, sum, there)
		}
	}
	for gates, wanted := range []int{1, 12, 102, 625, 2780} {
		if count := must(Count(3, gates)); count != wanted {
			t.Error(gates, count, wanted)
		}
	}
}

// P8.6: what Keep makes has, for all inputs with noughts on the new wires, copies of the outs there, and all else as it
// was.
func TestKeptCopies(t *testing.T) {
	s := from(16)
	for i := range 200 {
		wires := 1 + i%8
		c := s.circuit(wires, s.Intn(50))
		outs := make([]int, s.Intn(5))
		for k := range outs {
			outs[k] = s.Intn(wires)
		}
		d := must(Keep(c, outs))
		for state := range 1 << wires {
			made := must(Apply(c, state))
			wanted := state
			for k, out := range outs {
				wanted |= made >> out & 1 << (wires + k)
			}
			if got := must(Apply(d, state)); got != wanted {
				t.Fatal(c, outs, state, got, wanted)
			}
		}
	}
}

// P8.6: a circuit that is borrowed clean is clean.
func TestBorrowedIsClean(t *testing.T) {
	s := from(17)
	both := 0
	for i := range 600 {
		wires := 1 + i%5
		c := s.circuit(wires, s.Intn(4))
		if i%2 == 0 {
			c.Gates = append(c.Gates, must(circ.Inverse(c)).Gates...)
		}
		for _, l := range sets(wires) {
			if _, e := Borrowed(c, l); e != api.ErrNone {
				continue
			}
			state, e := Clean(c, l)
			want(t, c, state, e, 0, api.ErrNone)
			both++
		}
	}
	if both < 600 {
		t.Error(both)
	}
}

package affine

import (
	"slices"
	"testing"

	"spoondrift/api"
	"spoondrift/circ"
)

// samples are all maps of at most two wires, and some of each number of wires, those of one number behind one another.
func samples() []api.Affine {
	l := append(allMaps(1), allMaps(2)...)
	s := from(13)
	for wires := 3; wires <= api.MaxWires; wires++ {
		for gates := range 12 {
			l = append(l, s.affine(wires), mapOf(s.circuit(wires, gates)))
		}
	}
	return l
}

// P7.7: the map of the canonical circuit of a map is the map, and it has at most n times n gates, and n more.
func TestMapOfCanonical(t *testing.T) {
	for _, m := range append(samples(), allMaps(3)...) {
		c, e := Circuit(m)
		if e == api.ErrLong {
			continue
		}
		back, f := Of(c)
		if e != api.OK || f != api.OK || !Same(m, back) || c.Bits != 0 || len(c.Gates) > m.Wires*m.Wires+m.Wires {
			t.Error(m, c, back, e, f)
		}
	}
}

// P7.7: the map of two circuits, one after the other, is Compose of both maps; that of a circuit the other way round is
// Inverse.
func TestMapOfTwoCircuits(t *testing.T) {
	s := from(14)
	for i := range 360 {
		wires := 1 + i%api.MaxWires
		c, d := s.circuit(wires, s.Intn(61)), s.circuit(wires, s.Intn(61))
		both, e := Of(must(circ.Compose(c, d)))
		want(t, c, both, e, must(Compose(must(Of(c)), must(Of(d)))), api.OK)
		back, e := Of(must(circ.Inverse(c)))
		want(t, c, back, e, must(Inverse(must(Of(c)))), api.OK)
	}
}

// P7.7: Compose is associative, the identity changes nothing, and a map and its inverse, either way round, are the
// identity.
func TestGroup(t *testing.T) {
	l := samples()
	for i, a := range l {
		nothing, back := must(Identity(a.Wires)), must(Inverse(a))
		for _, x := range [][3]api.Affine{{a, nothing, a}, {nothing, a, a}, {a, back, nothing}, {back, a, nothing}} {
			got, e := Compose(x[0], x[1])
			want(t, a, got, e, x[2], api.OK)
		}
		again, e := Inverse(back)
		want(t, a, again, e, a, api.OK)
		b, c := l[(i+1)%len(l)], l[(i+3)%len(l)]
		if a.Wires == b.Wires && a.Wires == c.Wires {
			got, e := Compose(must(Compose(a, b)), c)
			want(t, a, got, e, must(Compose(a, must(Compose(b, c)))), api.OK)
		}
	}
}

// P7.7: a map takes different basis states to different ones.
func TestDifferentStates(t *testing.T) {
	for _, m := range samples() {
		if m.Wires > 8 {
			continue
		}
		var l []int
		for x := range 1 << m.Wires {
			l = append(l, must(Apply(m, x)))
		}
		slices.Sort(l)
		if len(slices.Compact(l)) != 1<<m.Wires {
			t.Error(m, l)
		}
	}
}

// P7.7: done as often as Order says, and not less often, a map is the identity.
func TestOrderOfPowers(t *testing.T) {
	for _, m := range samples() {
		order := must(Order(m))
		now, nothing := m, must(Identity(m.Wires))
		for n := 1; n < min(order, 300); n++ {
			if Same(now, nothing) {
				t.Fatal(m, order, n)
			}
			now = must(Compose(now, m))
		}
		if order <= 300 && !Same(now, nothing) {
			t.Error(m, order, now)
		}
	}
}

// P7.7: what is fixed is x and any sum of the rows of Fixed.
func TestWhatIsFixed(t *testing.T) {
	for _, m := range append(samples(), allMaps(3)...) {
		rows, x, e := Fixed(m)
		var wanted []int
		if e == api.OK {
			wanted = []int{x}
			for _, row := range rows {
				for _, y := range slices.Clone(wanted) {
					wanted = append(wanted, y^row)
				}
			}
			slices.Sort(wanted)
		}
		var still []int
		for y, z := range permuted(m) {
			if y == z {
				still = append(still, y)
			}
		}
		want(t, m, still, api.OK, wanted, api.OK)
	}
}

// P7.7: the list of Proof holds, and the shortest circuit has as many gates as its number there, and the map.
func TestProofHolds(t *testing.T) {
	for wires := 1; wires <= 3; wires++ {
		proof := must(Proof(wires))
		is, e := Holds(wires, proof)
		want(t, wires, is, e, true, api.OK)
		for number, many := range proof {
			m := must(Nth(wires, number))
			if wires == 3 && number%7 != 0 {
				continue
			}
			c, e := Shortest(m)
			own, f := Of(c)
			if e != api.OK || f != api.OK || len(c.Gates) != many || !Same(own, m) || len(must(Circuit(m)).Gates) < many {
				t.Error(m, c, many)
			}
		}
	}
}

// P7.7: no list that holds has a greater number anywhere than that of Proof.
func TestNoGreaterProof(t *testing.T) {
	for wires := 1; wires <= 3; wires++ {
		proof := must(Proof(wires))
		for number := range proof {
			if wires == 3 && number%5 != 0 {
				continue
			}
			l := slices.Clone(proof)
			l[number]++
			is, e := Holds(wires, l)
			want(t, number, is, e, false, api.OK)
		}
	}
	s := from(15)
	proof := must(Proof(2))
	for range 3000 {
		l := make([]int, len(proof))
		for i := range l {
			l[i] = max(0, proof[i]+s.Intn(5)/4-s.Intn(5)/4)
		}
		is, e := Holds(2, l)
		if e != api.OK {
			t.Fatal(l, e)
		}
		for i, x := range l {
			if is && x > proof[i] {
				t.Error("holds, but is greater:", l)
			}
		}
	}
}

package affine

import (
	"slices"
	"testing"

	"spoondrift/api"
)

// orbitMaps are all maps of at most three wires, and some of each number of wires: any ones, and such that take many
// basis states to themselves, and such with long orbits.
func orbitMaps() []api.Affine {
	l := slices.Concat(allMaps(1), allMaps(2), allMaps(3))
	s := from(6)
	for wires := 1; wires <= api.MaxWires; wires++ {
		for gates := range 5 {
			l = append(l, mapOf(s.circuit(wires, gates)))
		}
		for range 3 {
			l = append(l, s.affine(wires), mapOf(s.circuit(wires, 2*wires)))
		}
		next := api.Affine{Wires: wires, Rows: make([]int, wires)} // adds 1 wire to the next one
		for k := range wires {
			next.Rows[k] = 1<<k | 1<<k>>1
		}
		turned := next
		turned.Shift = 1
		l = append(l, next, turned)
	}
	// A row that adds others to the last wire, while each wire goes on to the next one: 4095 are taken round.
	long := api.Affine{Wires: 12, Rows: make([]int, 12), Shift: 1}
	for k := range 11 {
		long.Rows[k] = 2 << k
	}
	long.Rows[11] = 1 | 2 | 16 | 64
	return append(l, long)
}

// orderOf is the least number that all orbits divide.
func orderOf(m api.Affine) int {
	l, order := permuted(m), 1
	seen := make([]bool, len(l))
	for x := range l {
		length := 0
		for y := x; !seen[y]; y = l[y] {
			seen[y] = true
			length++
		}
		if length > 0 {
			least := order
			for least%length != 0 {
				least += order
			}
			order = least
		}
	}
	return order
}

// P7.3: how often a map is done until nothing is changed.
func TestOrder(t *testing.T) {
	most := 0
	for _, m := range orbitMaps() {
		wanted := orderOf(m)
		order, e := Order(m)
		want(t, m, order, e, wanted, api.OK)
		most = max(most, order)
	}
	if most < 4095 {
		t.Error("no long order:", most)
	}
}

// reducedOf are the reduced rows of a span, which is given as a list of all its members: each lead has just one row, the
// least member with this lead, as one that has another lead can be made less.
func reducedOf(span []int, wires int) []int {
	var l []int
	for lead := wires - 1; lead >= 0; lead-- {
		for x := 1 << lead; x < 2<<lead; x++ {
			if slices.Contains(span, x) {
				l = append(l, x)
				break
			}
		}
	}
	return l
}

// P7.3: what is taken to itself: the least one, and the sums of two of them.
func TestFixed(t *testing.T) {
	none := 0
	for _, m := range orbitMaps() {
		var still, sums []int
		for x, y := range permuted(m) {
			if x == y {
				still = append(still, x)
			}
		}
		rows, x, e := Fixed(m)
		if len(still) == 0 {
			want(t, m, fixed{rows, x}, e, fixed{}, api.ErrNone)
			none++
			continue
		}
		for _, y := range still {
			sums = append(sums, y^still[0])
		}
		want(t, m, fixed{rows, x}, e, fixed{reducedOf(sums, m.Wires), still[0]}, api.OK)
	}
	if none < 100 {
		t.Error("few maps leave nothing as it is:", none)
	}
}

// P7.3: the sums of any two that are taken to themselves are those of the least one and the others.
func TestFixedSums(t *testing.T) {
	for _, m := range allMaps(3) {
		sums := map[int]bool{}
		for x := range 8 {
			for y := range 8 {
				if goes(m, x) == x && goes(m, y) == y {
					sums[x^y] = true
				}
			}
		}
		rows, _, e := Fixed(m)
		if e == api.OK && len(sums) != 1<<len(rows) || e != api.OK && len(sums) != 0 {
			t.Error(m, rows, sums, e)
		}
	}
}

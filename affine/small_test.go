package affine

import (
	"slices"
	"testing"

	"spoondrift/api"
)

// notSmall are numbers of wires that maps have not if they are small.
func notSmall() []int { return []int{smallest, -1, 0, 4, 12, 13, 64, greatest} }

// wide are a map of four or more wires that is right, and one that is not.
func wide(wires int) (right, wrong api.Affine) {
	right = api.Affine{Wires: wires, Rows: make([]int, wires), Shift: 1}
	for k := range wires {
		right.Rows[k] = 1 << k
	}
	wrong = right
	wrong.Rows = slices.Clone(right.Rows)
	wrong.Rows[3] = 7
	return right, wrong
}

// P7.5: how many maps there are, and which numbers they have, both ways.
func TestNumbers(t *testing.T) {
	for wires := 1; wires <= 3; wires++ {
		all := allMaps(wires)
		count, e := Count(wires)
		want(t, wires, count, e, len(all), api.OK)
		for i, m := range all {
			number, e := Number(m)
			want(t, m, number, e, i, api.OK)
			got, e := Nth(wires, i)
			want(t, i, got, e, m, api.OK)
		}
		for _, number := range []int{smallest, -1, len(all), len(all) + 1, 1 << 40, greatest} {
			m, e := Nth(wires, number)
			want(t, number, m, e, api.Affine{}, api.ErrNot)
		}
	}
}

// P7.5: numbers of wires that have no numbered maps.
func TestNumbersOfMoreWires(t *testing.T) {
	for _, wires := range notSmall() {
		count, e := Count(wires)
		want(t, wires, count, e, 0, api.ErrRange)
		for _, number := range []int{smallest, -1, 0, 1, greatest} {
			m, e := Nth(wires, number)
			want(t, wires, m, e, api.Affine{}, api.ErrRange)
		}
	}
	for wires := 4; wires <= api.MaxWires; wires++ {
		right, wrong := wide(wires)
		number, e := Number(right)
		want(t, right, number, e, 0, api.ErrLarge)
		number, e = Number(wrong)
		want(t, wrong, number, e, 0, api.ErrNone)
		c, e := Shortest(right)
		want(t, right, c, e, api.Circuit{}, api.ErrLarge)
		c, e = Shortest(wrong)
		want(t, wrong, c, e, api.Circuit{}, api.ErrNone)
	}
}

// states are the basis states to which 0, 1 and so on are taken.
type states [8]int

// statesOf are those of a map.
func statesOf(m api.Affine) (p states) {
	copy(p[:], permuted(m))
	return p
}

// firstWords are, for each map that circuits of so many small gates have, the first one of the shortest circuits: all
// circuits are gone through, the shorter ones first, then in the order of the small gates.
func firstWords(wires, length int) map[states]api.Circuit {
	first := map[states]api.Circuit{}
	gates, count := smallGates(wires), 1
	for n := range length + 1 {
		for number := range count {
			c := circuit(wires)
			for _, d := range digits(number, len(gates), n) {
				c.Gates = append(c.Gates, gates[d])
			}
			var p states
			for x := range 1 << wires {
				p[x] = does(c, x)
			}
			if _, is := first[p]; !is {
				first[p] = c
			}
		}
		count *= len(gates)
	}
	return first
}

// P7.6: Shortest, and the list of Proof, against all short circuits.
func TestShortestOfAllCircuits(t *testing.T) {
	for wires, length := range []int{1: 2, 2: 6, 3: 4} {
		if wires == 0 {
			continue
		}
		first, met := firstWords(wires, length), 0
		all, proof := allMaps(wires), must(Proof(wires))
		for i, m := range all {
			wanted, is := first[statesOf(m)]
			if !is {
				if proof[i] <= length {
					t.Error(m, "has no circuit of the gates of its proof:", proof[i])
				}
				continue
			}
			met++
			c, e := Shortest(m)
			want(t, m, c, e, wanted, api.OK)
			want(t, m, proof[i], api.OK, len(wanted.Gates), api.OK)
		}
		if wires < 3 && met != len(all) || met < 500 && wires == 3 {
			t.Error("too few maps have short circuits:", wires, met)
		}
	}
}

// after is what does a gate first, and then p.
func (p states) after(g api.Gate, wires int) (q states) {
	for x := range 1 << wires {
		q[x] = p[does(circuit(wires, g), x)]
	}
	return q
}

// distances are how many small gates are needed.
func distances(wires int) map[states]int {
	open := []states{statesOf(must(Identity(wires)))}
	far := map[states]int{open[0]: 0}
	for ; len(open) > 0; open = open[1:] {
		for _, g := range smallGates(wires) {
			q := open[0].after(g, wires)
			if _, is := far[q]; !is {
				far[q] = far[open[0]] + 1
				open = append(open, q)
			}
		}
	}
	return far
}

// P7.6: the list of Proof in the order of all maps.
func TestProof(t *testing.T) {
	for wires := 1; wires <= 3; wires++ {
		far := distances(wires)
		var wanted []int
		for _, m := range allMaps(wires) {
			wanted = append(wanted, far[statesOf(m)])
		}
		proof, e := Proof(wires)
		want(t, wires, proof, e, wanted, api.OK)
	}
	for _, wires := range notSmall() {
		proof, e := Proof(wires)
		want(t, wires, proof, e, []int(nil), api.ErrRange)
	}
}

// P7.6: for all maps of three wires, the first gate is the first one that leaves a map that needs one gate less, and so
// on.
func TestShortest(t *testing.T) {
	far := distances(3)
	for _, m := range allMaps(3) {
		wanted := circuit(3)
		for p := statesOf(m); far[p] > 0; {
			at := slices.IndexFunc(smallGates(3), func(g api.Gate) bool { return far[p.after(g, 3)] < far[p] })
			g := smallGates(3)[at]
			wanted.Gates = append(wanted.Gates, g)
			p = p.after(g, 3)
		}
		c, e := Shortest(m)
		want(t, m, c, e, wanted, api.OK)
	}
}

// holds reports whether a list shows how many gates are needed, by the words of the chapter.
func holds(wires int, proof []int) bool {
	all := allMaps(wires)
	if len(proof) != len(all) {
		return false
	}
	numbers := map[states]int{}
	for i, m := range all {
		numbers[statesOf(m)] = proof[i]
		if proof[i] < 0 {
			return false
		}
	}
	for _, m := range all {
		l := permuted(m)
		isIdentity := true
		for x, y := range l {
			isIdentity = isIdentity && x == y
		}
		own := numbers[statesOf(m)]
		if isIdentity && own != 0 {
			return false
		}
		for _, g := range smallGates(wires) {
			var with states
			for x, y := range l {
				with[x] = does(circuit(wires, g), y)
			}
			if d := numbers[with] - own; d < -1 || d > 1 {
				return false
			}
		}
	}
	return true
}

// P7.6: all lists of two numbers, and lists of other lengths.
func TestHoldsOfOneWire(t *testing.T) {
	odd := []int{smallest, smallest + 1, -2, -1, 0, 1, 2, 3, greatest - 1, greatest}
	for _, a := range odd {
		for _, b := range odd {
			is, e := Holds(1, []int{a, b})
			want(t, []int{a, b}, is, e, a == 0 && (b == 0 || b == 1), api.OK)
		}
		is, e := Holds(1, []int{a})
		want(t, a, is, e, false, api.OK)
	}
	for _, l := range [][]int{nil, {}, {0, 0, 0}, {0, 1, 1}, make([]int, 24), make([]int, 1344)} {
		is, e := Holds(1, l)
		want(t, l, is, e, false, api.OK)
	}
}

// P7.6: lists that break one of the conditions alone, and lists that break none.
func TestHolds(t *testing.T) {
	for wires := 1; wires <= 3; wires++ {
		proof, count := must(Proof(wires)), must(Count(wires))
		wantHolds := func(wanted bool, change func(number, x int) int) {
			t.Helper()
			l := make([]int, count)
			for i, x := range proof {
				l[i] = change(i, x)
			}
			is, e := Holds(wires, l)
			want(t, wires, is, e, wanted, api.OK)
			if count < 100 && holds(wires, l) != wanted {
				t.Error("not so by the words of the chapter:", l)
			}
		}
		own := must(Number(must(Identity(wires))))
		wantHolds(true, func(_, x int) int { return x })
		wantHolds(true, func(_, x int) int { return 0 })
		wantHolds(true, func(_, x int) int { return min(x, 1) })
		wantHolds(true, func(_, x int) int { return min(x, 3) })
		wantHolds(true, func(_, x int) int { return x % 2 })
		wantHolds(true, func(_, x int) int { return max(x-1, 0) })
		wantHolds(false, func(_, x int) int { return x + 1 })
		wantHolds(false, func(_, x int) int { return 1 })
		wantHolds(false, func(_, x int) int { return -x })
		wantHolds(wires == 1, func(_, x int) int { return x * x })
		wantHolds(false, func(_, x int) int { return 2 * x })
		wantHolds(false, func(_, x int) int { return x % 2 * greatest })
		for k := 0; k < count; k += 1 + count/50 {
			change := func(by int) func(number, x int) int {
				return func(number, x int) int {
					if number == k {
						return by
					}
					return 0
				}
			}
			wantHolds(true, change(0))
			wantHolds(k != own, change(1))
			wantHolds(false, change(2))
			wantHolds(false, change(-1))
			wantHolds(false, change(greatest))
			wantHolds(false, change(smallest))
		}
		for _, l := range [][]int{nil, proof[1:], proof[:count-1], append(slices.Clone(proof), 0), append([]int{0}, proof...), make([]int, count-1), make([]int, count+1)} {
			is, e := Holds(wires, l)
			want(t, len(l), is, e, false, api.OK)
		}
		for _, other := range notSmall() {
			for _, l := range [][]int{nil, proof, {-1}, {0}} {
				is, e := Holds(other, l)
				want(t, other, is, e, false, api.ErrRange)
			}
		}
	}
}

// P7.6: any lists of two wires that are near to those that hold.
func TestHoldsOfTwoWires(t *testing.T) {
	s := from(12)
	proof, right := must(Proof(2)), 0
	for range 3000 {
		l, least := slices.Clone(proof), s.Intn(4)
		for i := range l {
			l[i] = max(0, l[i]-least)
		}
		for range s.Intn(4) {
			l[s.Intn(len(l))] += s.Intn(3) - 1
		}
		wanted := holds(2, l)
		is, e := Holds(2, l)
		want(t, l, is, e, wanted, api.OK)
		if wanted {
			right++
		}
	}
	if right < 300 || right > 2700 {
		t.Error("lists that hold:", right)
	}
}

// P7.6: the small gates are yielded in order, with their maps, and a loop over them may end before they do; so it is with
// the numbered maps.
func TestLoopsEnd(t *testing.T) {
	for wires := 1; wires <= 3; wires++ {
		wanted := smallGates(wires)
		for n := range wanted {
			var got []api.Gate
			for g := range moves(wires) {
				want(t, g.gate, g.does.given(), api.OK, mapOf(circuit(wires, g.gate)), api.OK)
				if got = append(got, g.gate); len(got) > n {
					break
				}
			}
			want(t, "small gates", got, api.OK, wanted[:n+1], api.OK)
		}
	}
	for i := range 1344 {
		for number, m := range numbered(3) {
			if number == i {
				want(t, i, m.given(), api.OK, must(Nth(3, i)), api.OK)
				break
			}
		}
	}
}

package rev

import (
	"slices"
	"testing"

	"spoondrift/api"
)

// turnsOf are the gates X, CX and CCX of at most three wires.
func turnsOf(wires int) []api.Gate {
	return [][]api.Gate{
		1: {x(0)},
		2: {x(0), x(1), cx(0, 1), cx(1, 0)},
		3: {
			x(0), x(1), x(2),
			cx(0, 1), cx(0, 2), cx(1, 0), cx(1, 2), cx(2, 0), cx(2, 1),
			ccx(0, 1, 2), ccx(0, 2, 1), ccx(1, 2, 0),
		},
	}[wires]
}

// numbers are those of a permutation of at most three wires, with noughts behind them.
func numbers(p []int) [8]int {
	var l [8]int
	copy(l[:], p)
	return l
}

// leastNumbers are the least numbers of gates of all permutations that have at most so many: all lists of gates are
// gone through.
func leastNumbers(wires, most int) map[[8]int]int {
	known := map[[8]int]int{}
	var walk func(now []int, many int)
	walk = func(now []int, many int) {
		key := numbers(now)
		if before, is := known[key]; !is || many < before {
			known[key] = many
		}
		if many == most {
			return
		}
		for _, g := range turnsOf(wires) {
			next := make([]int, len(now))
			for i, state := range now {
				next[i] = does(circuit(wires, g), state)
			}
			walk(next, many+1)
		}
	}
	walk(tableIs(circuit(wires)), 0)
	return known
}

// P8.3: how many permutations need so many gates, and what is no number of wires or of gates.
func TestCount(t *testing.T) {
	for wires := 1; wires <= MaxWide; wires++ {
		wanted := make([]int, MaxLeast+1)
		for _, many := range leastNumbers(wires, MaxLeast) {
			wanted[many]++
		}
		for gates, count := range wanted {
			got, e := Count(wires, gates)
			want(t, []int{wires, gates}, got, e, count, api.OK)
		}
		for _, gates := range []int{smallest, -1, MaxLeast + 1, 100, greatest} {
			got, e := Count(wires, gates)
			want(t, []int{wires, gates}, got, e, 0, api.ErrRange)
		}
	}
	for _, wires := range []int{smallest, -1, 0, 4, 64, greatest} {
		for _, gates := range []int{-1, 0, MaxLeast, MaxLeast + 1} {
			got, e := Count(wires, gates)
			want(t, []int{wires, gates}, got, e, 0, api.ErrMany)
		}
	}
}

// wantShortest fails the test if Shortest does not return a circuit of so many gates; there is none of at most
// MaxLeast if many is -1.
func wantShortest(t *testing.T, p []int, many int) {
	t.Helper()
	for most := range MaxLeast + 1 {
		c, e := Shortest(p, most)
		if many < 0 || most < many {
			want(t, p, c, e, api.Circuit{}, api.ErrNone)
			continue
		}
		if e != api.OK || c.Wires != widths[len(p)] || c.Bits != 0 || len(c.Gates) != many || !slices.Equal(tableIs(c), p) {
			t.Error(p, most, c, e, many)
		}
		for _, g := range c.Gates {
			if g.Kind != api.X && g.Kind != api.CX && g.Kind != api.CCX {
				t.Error(p, c)
			}
		}
	}
}

// P8.3: shortest circuits of all permutations of up to two wires, and of some of three; ErrNone where there is none.
func TestShortest(t *testing.T) {
	for wires := 1; wires <= MaxWide; wires++ {
		known := leastNumbers(wires, MaxLeast)
		for i, p := range permutations(1 << wires) {
			many, is := known[numbers(p)]
			if !is {
				many = -1
			}
			if wires < 3 || many >= 0 && many < 3 || i%401 == 0 {
				wantShortest(t, p, many)
			}
		}
	}
}

// P8.3: the errors of the permutation come before that of the number of gates.
func TestShortestErrors(t *testing.T) {
	for _, most := range []int{smallest, -1, MaxLeast + 1, 100, greatest} {
		for _, p := range [][]int{{0, 1}, {3, 2, 1, 0}, {0, 1, 2, 3, 4, 5, 6, 7}} {
			c, e := Shortest(p, most)
			want(t, p, c, e, api.Circuit{}, api.ErrRange)
		}
		for _, p := range [][]int{nil, {0}, {0, 1, 2}, {1, 1}, {0, 3}, {0, 1, 2, 4}, make([]int, 16)} {
			c, e := Shortest(p, most)
			want(t, p, c, e, api.Circuit{}, wideError(p))
		}
	}
}

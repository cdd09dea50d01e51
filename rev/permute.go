package rev

import (
	"math/bits"
	"slices"

	"spoondrift/api"
)

// Wide returns of how many wires a permutation is.
func Wide(p []int) (int, api.Errno) {
	wide := bits.TrailingZeros(uint(len(p)))
	if wide < 1 || wide > MaxWide || len(p) != 1<<wide {
		return 0, api.ErrMany
	}
	if _, is := find(p, func(x int) bool { return !isBelow(x, len(p)) }); is {
		return 0, api.ErrRange
	}
	if anyTwice(p) {
		return 0, api.ErrTwice
	}
	return wide, api.OK
}

// anyTwice reports whether a number comes twice.
func anyTwice(l []int) bool {
	seen := map[int]bool{}
	for _, x := range l {
		if seen[x] {
			return true
		}
		seen[x] = true
	}
	return false
}

// least returns the least bit that a number has.
func least(x int) int { return bits.TrailingZeros(uint(x)) }

// bitsOf returns the bits that a number has, rising.
func bitsOf(x int) []int {
	var l []int
	for ; x != 0; x &= x - 1 {
		l = append(l, least(x))
	}
	return l
}

// Circuit returns the circuit of a permutation. The gates for f(0) are those that are said of the others: 0 has no
// bits that f(0) has not, and none that could be controls.
func Circuit(p []int) (api.Circuit, api.Errno) {
	wide, e := Wide(p)
	if e != api.OK {
		return api.Circuit{}, e
	}
	f := slices.Clone(p)
	c := api.Circuit{Wires: wide}
	add := func(wire int, controls ...int) {
		m := moveOf(turning(wire, controls...))
		c.Gates = append(c.Gates, m.given())
		for i, x := range f {
			f[i] = m.take(x)
		}
	}
	for i := range f {
		for i&^f[i] != 0 {
			add(least(i&^f[i]), bitsOf(f[i])...)
		}
		for f[i] != i {
			add(least(f[i]&^i), bitsOf(i)...)
		}
	}
	slices.Reverse(c.Gates)
	return c, api.OK
}

// Cycles returns the cycles of a permutation.
func Cycles(p []int) ([][]int, api.Errno) {
	if _, e := Wide(p); e != api.OK {
		return nil, e
	}
	var cycles [][]int
	seen := map[int]bool{}
	for start := range p {
		var cycle []int
		for x := start; !seen[x]; x = p[x] {
			seen[x] = true
			cycle = append(cycle, x)
		}
		if len(cycle) > 1 {
			cycles = append(cycles, cycle)
		}
	}
	return cycles, api.OK
}

// Even reports whether a permutation is even: so many changes of two make a cycle as it has numbers behind the first.
func Even(p []int) (bool, api.Errno) {
	cycles, e := Cycles(p)
	if e != api.OK {
		return false, e
	}
	changes := 0
	for _, cycle := range cycles {
		changes += len(cycle) - 1
	}
	return changes%2 == 0, api.OK
}

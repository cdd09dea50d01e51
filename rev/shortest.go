package rev

import (
	"slices"

	"spoondrift/api"
)

// table is a permutation of MaxWide wires. One of fewer wires leaves the others as they are.
type table [1 << MaxWide]int

// tableOf returns the table of a permutation.
func tableOf(p []int) table {
	var t table
	for x := range t {
		low := x % len(p)
		t[x] = x - low + p[low]
	}
	return t
}

// identity returns the table that changes nothing.
func identity() table { return tableOf([]int{0}) }

// then returns the table with one more gate behind it.
func (t table) then(take func(state int) int) table {
	for x, y := range t {
		t[x] = take(y)
	}
	return t
}

// turns returns all gates X, CX and CCX of so many wires, those with the same controls once.
func turns(wires int) []move {
	var l []move
	for controls := range 1 << wires {
		for wire := range wires {
			if !has(controls, wire) {
				l = append(l, moveOf(turning(wire, bitsOf(controls)...)))
			}
		}
	}
	return l
}

// met is how a table was met first: by a gate behind another table. So many gates lead there.
type met struct {
	before table
	last   gate
	many   int
}

// meet returns how tables are met first, those of fewer gates before those of more: all tables of at most so many
// gates, or those up to the first one that is the last.
func meet(wires, most int, isLast func(table) bool) map[table]met {
	known := map[table]met{identity(): {}}
	gates := turns(wires)
search:
	for open := []table{identity()}; len(open) > 0; open = open[1:] {
		now := known[open[0]]
		if now.many == most {
			break
		}
		for _, m := range gates {
			// A gate that is done twice leads back.
			if m.gate == now.last {
				continue
			}
			next := open[0].then(m.take)
			if _, again := known[next]; again {
				continue
			}
			known[next] = met{open[0], m.gate, now.many + 1}
			if isLast(next) {
				break search
			}
			open = append(open, next)
		}
	}
	return known
}

// Shortest returns a circuit of the least number of gates.
func Shortest(p []int, most int) (api.Circuit, api.Errno) {
	wide, e := Wide(p)
	if e != api.OK {
		return api.Circuit{}, e
	}
	if !isBelow(most, MaxLeast+1) {
		return api.Circuit{}, api.ErrRange
	}
	wanted := tableOf(p)
	known := meet(wide, most, func(t table) bool { return t == wanted })
	if _, is := known[wanted]; !is {
		return api.Circuit{}, api.ErrNone
	}
	c := api.Circuit{Wires: wide}
	for now := wanted; now != identity(); now = known[now].before {
		c.Gates = append(c.Gates, known[now].last.given())
	}
	slices.Reverse(c.Gates)
	return c, api.OK
}

// Count returns how many permutations need so many gates.
func Count(wires, gates int) (int, api.Errno) {
	if wires < 1 || wires > MaxWide {
		return 0, api.ErrMany
	}
	if !isBelow(gates, MaxLeast+1) {
		return 0, api.ErrRange
	}
	count := 0
	for _, x := range meet(wires, gates, func(table) bool { return false }) {
		if x.many == gates {
			count++
		}
	}
	return count, api.OK
}

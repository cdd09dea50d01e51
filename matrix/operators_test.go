package matrix

import (
	"fmt"
	"slices"
	"testing"

	"spoondrift/api"
)

// P3.2: the identities, and numbers of wires that are not allowed.
func TestIdentity(t *testing.T) {
	for wires := range api.MaxState + 1 {
		side := 1 << wires
		got, e := Identity(wires)
		wantResidues(t, wires, got, e, grown(side, side, func(row, column int) int {
			if row == column {
				return 1
			}
			return 0
		}))
	}
	for _, wires := range []int{-1, api.MaxState + 1, 64, greatest, smallest} {
		got, e := Identity(wires)
		wantMatrix(t, wires, got, e, nil, api.ErrRange)
	}
}

// amplitude is a basis state and its number.
type amplitude struct {
	state int
	x     api.Num
}

// actOn is what a gate makes of a basis state, by the words of DOC.md: values of wires, not matrices.
func actOn(kind, state int, wires []int) []amplitude {
	value := func(i int) int { return state >> wires[i] & 1 }
	flip := func(i int) int { return state ^ 1<<wires[i] }
	turn := func(x api.Num) []amplitude {
		if value(0) == 1 {
			return []amplitude{{state, x}}
		}
		return []amplitude{{state, whole(1)}}
	}
	i, minus, root := num(0, 0, 1, 0, 0), num(0, 0, -1, 0, 0), num(1, 0, 0, 0, 1)
	switch kind {
	case api.X:
		return []amplitude{{flip(0), whole(1)}}
	case api.Y:
		return []amplitude{{flip(0), []api.Num{i, minus}[value(0)]}}
	case api.Z:
		return turn(whole(-1))
	case api.H:
		if value(0) == 0 {
			return []amplitude{{state, root}, {flip(0), root}}
		}
		return []amplitude{{flip(0), root}, {state, num(-1, 0, 0, 0, 1)}}
	case api.S:
		return turn(i)
	case api.Sd:
		return turn(minus)
	case api.T:
		return turn(num(0, 1, 0, 0, 0))
	case api.Td:
		return turn(num(0, 0, 0, -1, 0))
	case api.CX:
		if value(0) == 1 {
			return []amplitude{{flip(1), whole(1)}}
		}
	case api.CZ:
		if value(1) == 1 {
			return turn(whole(-1))
		}
	case api.Swap:
		if value(0) != value(1) {
			return []amplitude{{flip(0) ^ 1<<wires[1], whole(1)}}
		}
	case api.CCX:
		if value(0) == 1 && value(1) == 1 {
			return []amplitude{{flip(2), whole(1)}}
		}
	}
	return []amplitude{{state, whole(1)}}
}

// operatorOf has in the column of each basis state what a gate makes of it.
func operatorOf(kind, n int, wires []int) [][]api.Num {
	m := zeros(1<<n, 1<<n)
	for state := range 1 << n {
		for _, a := range actOn(kind, state, wires) {
			m[a.state][state] = a.x
		}
	}
	return m
}

// everyWires calls do with all lists of many different wires of n.
func everyWires(n, many int, do func(wires []int)) {
	var extend func(wires []int)
	extend = func(wires []int) {
		if len(wires) == many {
			do(wires)
			return
		}
		for wire := range n {
			if !slices.Contains(wires, wire) {
				extend(append(slices.Clone(wires), wire))
			}
		}
	}
	extend(nil)
}

// P3.2: the operators of all kinds, on their own wires and on all wires of several, do what the gates do.
func TestOperatorsOfKinds(t *testing.T) {
	for kind := api.X; kind <= api.CCX; kind++ {
		many := wiresOf(kind)
		own := must(Of(kind))
		wantMatrix(t, kind, own, api.OK, operatorOf(kind, many, []int{0, 1, 2}[:many]), api.OK)
		for n := many; n <= 4; n++ {
			everyWires(n, many, func(wires []int) {
				got, e := On(own, wires, n)
				wantMatrix(t, fmt.Sprint(kind, wires, n), got, e, operatorOf(kind, n, wires), api.OK)
			})
		}
		for _, wires := range [][]int{{5, 0, 3}, {2, 4, 1}} {
			got, e := On(own, wires[:many], api.MaxState)
			wantMatrix(t, fmt.Sprint(kind, wires), got, e, operatorOf(kind, api.MaxState, wires[:many]), api.OK)
		}
	}
	for _, kind := range []int{0, -1, api.Measure, api.Reset, api.Reset + 1, greatest, smallest} {
		got, e := Of(kind)
		wantMatrix(t, kind, got, e, nil, api.ErrRange)
	}
}

// valueOn is the number that the wires have in a basis state, the first one lowest.
func valueOn(state int, wires []int) int {
	value := 0
	for i, wire := range wires {
		value += state / (1 << wire) % 2 * (1 << i)
	}
	return value
}

// P3.2: any matrix, on any wires: all others must stay.
func TestOnAnyWires(t *testing.T) {
	s := from(5)
	for n := range 5 {
		for many := range n + 1 {
			m := s.matrix(1<<many, 1<<many, 100)
			everyWires(n, many, func(wires []int) {
				var others []int
				for wire := range n {
					if !slices.Contains(wires, wire) {
						others = append(others, wire)
					}
				}
				got, e := On(m, wires, n)
				wantResidues(t, fmt.Sprint(wires, n), got, e, grown(1<<n, 1<<n, func(row, column int) int {
					if valueOn(row, others) != valueOn(column, others) {
						return 0
					}
					return residue(m[valueOn(row, wires)][valueOn(column, wires)])
				}))
			})
		}
	}
	all := []int{3, 1, 5, 0, 2, 4}
	m := s.matrix(MaxSide, MaxSide, 3)
	got, e := On(m, all, api.MaxState)
	wantResidues(t, all, got, e, grown(MaxSide, MaxSide, func(row, column int) int {
		return residue(m[valueOn(row, all)][valueOn(column, all)])
	}))
}

// P3.2: the errors of On, in their order.
func TestOnErrors(t *testing.T) {
	one, two, four := zeros(1, 1), zeros(2, 2), zeros(4, 4)
	for i, x := range []struct {
		m     [][]api.Num
		wires []int
		n     int
		e     api.Errno
	}{
		{two, []int{0}, -1, api.ErrRange},
		{two, []int{0}, api.MaxState + 1, api.ErrRange},
		{two, []int{-1, -1}, 7, api.ErrRange},
		{two, nil, smallest, api.ErrRange},
		{two, nil, greatest, api.ErrRange},
		{two, []int{0}, 64, api.ErrRange},
		{two, []int{0}, 0, api.ErrNot},
		{two, []int{2}, 2, api.ErrNot},
		{two, []int{-1}, 2, api.ErrNot},
		{two, []int{greatest}, 6, api.ErrNot},
		{two, []int{smallest}, 6, api.ErrNot},
		{four, []int{0, 0, 3}, 3, api.ErrNot},
		{four, []int{0, 0}, 3, api.ErrTwice},
		{four, []int{1, 2, 1}, 3, api.ErrTwice},
		{two, []int{0, 1, 2, 3, 4, 5, 0}, 6, api.ErrTwice},
		{two, make([]int, 10000), 6, api.ErrTwice},
		{four, []int{0}, 2, api.ErrClash},
		{two, []int{0, 1}, 2, api.ErrClash},
		{two, nil, 2, api.ErrClash},
		{one, []int{0}, 1, api.ErrClash},
		{zeros(3, 3), []int{0, 1}, 2, api.ErrClash},
		{zeros(2, 4), []int{0}, 2, api.ErrClash},
		{zeros(4, 2), []int{0}, 2, api.ErrClash},
		{zeros(2, 4), []int{0, 1}, 2, api.ErrClash},
		{zeros(1, 2), nil, 2, api.ErrClash},
		{zeros(64, 64), []int{0, 1, 2, 3, 4}, 6, api.ErrClash},
	} {
		got, e := On(x.m, x.wires, x.n)
		wantMatrix(t, i, got, e, nil, x.e)
	}
}

// The examples 1, 2 and 5 of the chapter.
func TestExamplesOfOperators(t *testing.T) {
	h, x, y, z, cx := must(Of(api.H)), must(Of(api.X)), must(Of(api.Y)), must(Of(api.Z)), must(Of(api.CX))
	got, e := Mul(h, h)
	wantMatrix(t, "H H", got, e, must(Identity(1)), api.OK)
	k, e := Phase(must(Mul(z, x)), y)
	want(t, "Z X", k, e, 2, api.OK)
	got, e = On(x, []int{1}, 2)
	wantMatrix(t, "X on 1", got, e, table(wholes(0, 0, 1, 0), wholes(0, 0, 0, 1), wholes(1, 0, 0, 0), wholes(0, 1, 0, 0)), api.OK)
	got, e = On(cx, []int{1, 0}, 2)
	wantMatrix(t, "CX on 1, 0", got, e, table(wholes(1, 0, 0, 0), wholes(0, 1, 0, 0), wholes(0, 0, 0, 1), wholes(0, 0, 1, 0)), api.OK)
	got, e = On(cx, []int{0, 0}, 2)
	wantMatrix(t, "CX on 0, 0", got, e, nil, api.ErrTwice)
	got, e = On(cx, []int{0}, 2)
	wantMatrix(t, "CX on 0", got, e, nil, api.ErrClash)
}

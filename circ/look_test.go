package circ

import (
	"slices"
	"testing"

	"spoondrift/api"
)

// P4.3: the layers of the chapter's example, and of gates that meet by their bits alone.
func TestLayers(t *testing.T) {
	for i, x := range []struct {
		c      api.Circuit
		wanted []int
	}{
		{three(), nil},
		{three(on(api.H, 0), on(api.CX, 0, 1), on(api.T, 1), on(api.X, 0)), []int{0, 1, 2, 2}},
		{three(on(api.T, 0), on(api.T, 0), on(api.Z, 0)), []int{0, 1, 2}},                // to commute does not help
		{three(look(0, 0), look(1, 0), look(2, 1)), []int{0, 1, 0}},                      // both write
		{three(look(0, 0), when(1, api.X, 1), when(2, api.X, 2)), []int{0, 1, 0}},        // read after it is written
		{three(when(1, api.X, 1), look(0, 0)), []int{0, 1}},                              // written after it is read
		{three(when(1, api.X, 0), when(1, api.X, 1), when(1, api.X, 2)), []int{0, 0, 0}}, // all of them read
		{three(on(api.H, 0), on(api.H, 0), on(api.H, 1), on(api.CX, 1, 0)), []int{0, 1, 0, 2}},
		{three(on(api.CCX, 0, 1, 2), on(api.X, 2), on(api.Reset, 0), on(api.Swap, 0, 2)), []int{0, 1, 1, 2}},
		{three(look(0, 0), on(api.H, 1), when(1, api.H, 2), look(1, 0), look(2, 1)), []int{0, 0, 1, 2, 2}},
	} {
		got, e := Layers(x.c)
		wantList(t, i, got, e, x.wanted, api.OK)
	}
}

// P4.3: layers and their number, for all pairs of gates and for many circuits, against the words of the chapter.
func TestLayersOfMany(t *testing.T) {
	all := allGates(3, 2)
	for _, g := range all {
		for _, h := range all {
			wanted := []int{0, 0}
			if doMeet(g, h) {
				wanted[1] = 1
			}
			got, e := Layers(three(g, h))
			wantList(t, three(g, h), got, e, wanted, api.OK)
			depth, e := Depth(three(g, h))
			want(t, three(g, h), depth, e, wanted[1]+1, api.OK)
		}
	}
	s := from(5)
	for i := range 500 {
		c := s.circuit(1+i%12, i%9, s.Intn(api.MaxGates+1), api.MaxGates)
		wanted := layersOf(c)
		got, e := Layers(c)
		wantList(t, c, got, e, wanted, api.OK)
		depth, e := Depth(c)
		want(t, c, depth, e, slices.Max(append(wanted, -1))+1, api.OK)
	}
	deep, e := Depth(three(slices.Repeat([]api.Gate{on(api.T, 1)}, api.MaxGates)...))
	want(t, "all on one wire", deep, e, api.MaxGates, api.OK)
	none, e := Depth(three())
	want(t, "no gates", none, e, 0, api.OK)
}

// P4.3: the numbers of gates of each kind, X first, and the wires that gates have, rising.
func TestCountAndUsed(t *testing.T) {
	for kind := api.X; kind <= api.Reset; kind++ {
		var wanted [14]int
		wanted[kind-1] = 2
		g := on(kind, []int{7, 3, 5}[:arities[kind]]...)
		got, e := Count(circuit(12, 1, g, g))
		want(t, g, got, e, wanted, api.OK)
		used, e := Used(circuit(12, 1, g))
		wantList(t, g, used, e, setOf(g.Wires), api.OK)
	}
	s := from(6)
	for i := range 300 {
		wires := 1 + i%12
		c := s.circuit(wires, i%9, s.Intn(20)*s.Intn(7), 50)
		var count [14]int
		var used []int
		for _, g := range c.Gates {
			count[g.Kind-1]++
			used = append(used, g.Wires...)
		}
		got, e := Count(c)
		want(t, c, got, e, count, api.OK)
		l, e := Used(c)
		wantList(t, c, l, e, slices.Compact(setOf(used)), api.OK)
	}
	l, e := Used(three())
	wantList(t, "no gates", l, e, nil, api.OK)
	l, e = Used(circuit(2, 0, on(api.CX, 0, 1)))
	wantList(t, "example 1", l, e, []int{0, 1}, api.OK)
}

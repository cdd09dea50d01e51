package pebble

import (
	"slices"
	"testing"

	"spoondrift/api"
)

// wrongGraphs are graphs that are not right, with their errors.
func wrongGraphs() []struct {
	d api.Dag
	e api.Errno
} {
	many := api.Dag{Needs: make([][]int, MaxNodes+1)}
	unlike := api.Dag{Needs: slices.Repeat([][]int{{5, 5, 5}}, MaxNodes+1)}
	return []struct {
		d api.Dag
		e api.Errno
	}{
		{api.Dag{}, api.ErrMany},
		{api.Dag{Needs: [][]int{}}, api.ErrMany},
		{many, api.ErrMany},
		{unlike, api.ErrMany},
		{graph([]int{0}), api.ErrOrder},
		{graph([]int{-1}), api.ErrOrder},
		{graph(nil, []int{1}), api.ErrOrder},
		{graph(nil, []int{smallest}), api.ErrOrder},
		{graph(nil, []int{greatest}), api.ErrOrder},
		{graph(nil, []int{2}, nil), api.ErrOrder},
		{graph(nil, nil, []int{0, 2}), api.ErrOrder},
		{graph(nil, nil, []int{-1, 1}), api.ErrOrder},
		{graph(nil, nil, []int{1, 0}), api.ErrOrder},
		{graph(nil, nil, []int{1, 1}), api.ErrOrder},
		{graph(nil, nil, nil, []int{0, 1, 2}), api.ErrMany},
		{graph(nil, nil, nil, []int{2, 1, 7}), api.ErrMany},
		// The first node that is wrong decides.
		{graph(nil, []int{0, 0, 0}, []int{2}), api.ErrMany},
		{graph(nil, []int{1}, []int{0, 0, 0}), api.ErrOrder},
		{graph([]int{0}, []int{0, 0, 0}), api.ErrOrder},
		{graph([]int{0, 1, 2}, []int{9}), api.ErrMany},
	}
}

// P9.1: what graphs are right, and the error of those that are not.
func TestCheck(t *testing.T) {
	for _, wrong := range wrongGraphs() {
		if e := Check(wrong.d); e != wrong.e {
			t.Error(wrong.d, e, wrong.e)
		}
	}
	for nodes := 1; nodes <= 5; nodes++ {
		for _, d := range graphs(nodes) {
			if e := Check(d); e != api.OK {
				t.Error(d, e)
			}
		}
	}
	s := from(1)
	for i := range 200 {
		if d := s.graph(1 + i%MaxNodes); Check(d) != api.OK {
			t.Error(d)
		}
	}
	full := graph(nil, []int{0}, []int{0, 1}, []int{1, 2}, []int{0, 3}, []int{}, []int{5}, []int{0, 6}, []int{6, 7}, []int{7, 8})
	if e := Check(full); e != api.OK {
		t.Error(e)
	}
}

// P9.1: all functions with graphs return the error of Check first, whatever else is wrong.
func TestWrongGraphs(t *testing.T) {
	for _, wrong := range wrongGraphs() {
		for _, l := range [][]int{nil, {0}, {0, 0}, {99}, make([]int, MaxMoves+1)} {
			for _, pebbles := range []int{-1, 0, 1, MaxNodes + 1} {
				for _, f := range graphCalls(wrong.d, l, l, pebbles) {
					if got, e := f.do(); !isZero(got) || e != wrong.e {
						t.Error(f.name, wrong.d, got, e, wrong.e)
					}
				}
			}
		}
	}
}

// P9.1: lines and trees.
func TestLineAndTree(t *testing.T) {
	for n := 1; n <= MaxNodes; n++ {
		d, e := Line(n)
		want(t, n, d, e, line(n), api.OK)
	}
	for levels, wanted := range []api.Dag{
		1: graph(nil),
		2: graph(nil, nil, []int{0, 1}),
		3: graph(nil, nil, nil, nil, []int{0, 1}, []int{2, 3}, []int{4, 5}),
	} {
		if levels > 0 {
			d, e := Tree(levels)
			want(t, levels, d, e, wanted, api.OK)
		}
	}
	for _, n := range []int{smallest, -3, -1, 0, MaxNodes + 1, 64, 1 << 40, greatest} {
		d, e := Line(n)
		want(t, n, d, e, api.Dag{}, api.ErrMany)
		d, e = Tree(n)
		want(t, n, d, e, api.Dag{}, api.ErrMany)
	}
	for levels := 4; levels <= MaxNodes; levels++ {
		d, e := Tree(levels)
		want(t, levels, d, e, api.Dag{}, api.ErrMany)
	}
}

// P9.2: the errors of goals come behind those of the graph, and before all others.
func TestWrongGoals(t *testing.T) {
	for _, wrong := range []struct {
		goals []int
		e     api.Errno
	}{
		{nil, api.ErrMany},
		{[]int{}, api.ErrMany},
		{[]int{3}, api.ErrNot},
		{[]int{-1}, api.ErrNot},
		{[]int{smallest}, api.ErrNot},
		{[]int{0, greatest}, api.ErrNot},
		{[]int{2, 1, 0, 3}, api.ErrNot},
		{[]int{1, 1, -1}, api.ErrNot},
		{append(make([]int, 200), 3), api.ErrNot},
		{[]int{1, 0}, api.ErrOrder},
		{[]int{1, 1}, api.ErrOrder},
		{[]int{0, 2, 1}, api.ErrOrder},
		{[]int{0, 1, 2, 2}, api.ErrOrder},
		{make([]int, 200), api.ErrOrder},
	} {
		for _, moves := range [][]int{nil, {0, 1}, {1}, {7}, {-1}, make([]int, MaxMoves+1)} {
			for _, pebbles := range []int{smallest, -1, 0, 3, MaxNodes, MaxNodes + 1, greatest} {
				for _, f := range goalCalls(line(3), wrong.goals, moves, pebbles) {
					if got, e := f.do(); !isZero(got) || e != wrong.e {
						t.Error(f.name, wrong.goals, got, e, wrong.e)
					}
				}
			}
		}
	}
}

// P0.1: every call ends, and none panics, whatever its arguments are; with an error all other results are zero.
func TestAnyArguments(t *testing.T) {
	s := from(2)
	odd := []int{smallest, -1 << 32, -1, 11, 12, 63, 64, 65, 1 << 31, 1 << 40, greatest - 1, greatest}
	number := func() int {
		if s.Intn(8) == 0 {
			return odd[s.Intn(len(odd))]
		}
		return s.Intn(5) - s.Intn(2)
	}
	numbers := func(n int) []int {
		l := make([]int, n)
		for i := range l {
			l[i] = number()
		}
		return l
	}
	some := func() api.Dag {
		if s.Intn(2) == 0 {
			return s.graph(1 + s.Intn(4))
		}
		var d api.Dag
		for range s.Intn(5) {
			d.Needs = append(d.Needs, numbers(s.Intn(4)))
		}
		return d
	}
	for range 10000 {
		calls := append(graphCalls(some(), numbers(s.Intn(4)), numbers(s.Intn(6)), number()), numberCalls(number())...)
		for _, f := range calls {
			if got, e := f.do(); e != api.OK && !isZero(got) {
				t.Error(f.name, got, e)
			}
		}
	}
	for _, n := range odd {
		for _, f := range numberCalls(n) {
			if got, e := f.do(); !isZero(got) || e != api.ErrMany {
				t.Error(f.name, n, got, e)
			}
		}
	}
}

// R4: arguments stay as they are, and results share no memory with them or with one another.
func TestMemory(t *testing.T) {
	d := graph(nil, nil, slices.Grow([]int{0}, 9), slices.Grow([]int{0, 1}, 9), slices.Grow([]int{3}, 9))
	goals := slices.Grow([]int{2, 4}, 9)
	moves := slices.Grow([]int{0, 2, 1, 3, 3, 3}, 9)
	positions := slices.Grow([]int{0, 1, 2, 3}, 9)
	before := textOf([]any{d, goals, moves, positions})
	results := func() []any {
		return []any{must(Needed(d, goals)), must(Play(d, moves)), must(Plain(d, goals)), must(Shortest(d, goals, 5)), must(Closed(d, 3)), must(Bennett(6))}
	}
	wanted := textOf(results())
	for _, l := range results() {
		list := l.([]int)
		for i := range list[:cap(list)] {
			list[:cap(list)][i] = -77
		}
	}
	for _, made := range []api.Dag{must(Line(9)), must(Tree(3))} {
		for i, needs := range made.Needs {
			for k := range needs[:cap(needs)] {
				needs[:cap(needs)][k] = -77
			}
			for _, next := range made.Needs[i+1:] {
				if slices.Contains(next, -77) {
					t.Fatal("two nodes share what they need")
				}
			}
		}
	}
	c := must(Circuit(d, moves))
	for i, g := range c.Gates {
		_ = append(g.Wires, -77)
		for k := range g.Wires {
			g.Wires[k] = -77
		}
		for _, next := range c.Gates[i+1:] {
			if slices.Contains(next.Wires, -77) {
				t.Fatal("two gates share their wires")
			}
		}
	}
	clear(must(Trade(d, goals)))
	for _, f := range append(graphCalls(d, goals, moves, 3), graphCalls(d, goals, positions, 2)...) {
		f.do()
	}
	if got := textOf(results()); got != wanted {
		t.Error(got, wanted)
	}
	if after := textOf([]any{d, goals, moves, positions}); after != before {
		t.Error(after, before)
	}
}

// The five examples of the chapter.
func TestExamples(t *testing.T) {
	d, e := Line(4)
	want(t, "Line", d, e, graph(nil, []int{0}, []int{1}, []int{2}), api.OK)
	tree, e := Tree(2)
	want(t, "Tree", tree, e, graph(nil, nil, []int{0, 1}), api.OK)
	l, e := Play(line(2), []int{0, 1, 0})
	want(t, "Play", l, e, []int{0, 1, 3, 2}, api.OK)
	is, e := Reaches(line(2), []int{1}, []int{0, 1, 0})
	want(t, "Reaches", is, e, true, api.OK)
	l, e = Play(line(2), []int{1})
	want(t, "Play", l, e, []int{}, api.ErrOrder)
	nine := []int{0, 1, 0, 2, 3, 2, 0, 1, 0}
	l, e = Bennett(4)
	want(t, "Bennett", l, e, nine, api.OK)
	n, e := Most(d, nine)
	want(t, "Most", n, e, 3, api.OK)
	seven := []int{0, 1, 2, 3, 2, 1, 0}
	l, e = Plain(d, []int{3})
	want(t, "Plain", l, e, seven, api.OK)
	n, e = Most(d, seven)
	want(t, "Most", n, e, 4, api.OK)
	n, e = Least(d, []int{3})
	want(t, "Least", n, e, 3, api.OK)
	trade, e := Trade(d, []int{3})
	want(t, "Trade", trade, e, [][2]int{{3, 9}, {4, 7}}, api.OK)
	l, e = Shortest(d, []int{3}, 3)
	want(t, "Shortest", l, e, nine, api.OK)
	n, e = Least(tree, []int{2})
	want(t, "Least", n, e, 3, api.OK)
	l, e = Closed(d, 2)
	want(t, "Closed", l, e, []int{0, 1, 2, 3, 6}, api.OK)
	is, e = Shows(d, []int{3}, 2, l)
	want(t, "Shows", is, e, true, api.OK)
	c, e := Circuit(line(2), []int{0, 1, 0})
	want(t, "Circuit", c, e, api.Circuit{Wires: 2, Gates: []api.Gate{{Kind: api.X, Wires: []int{0}}, {Kind: api.CX, Wires: []int{0, 1}}, {Kind: api.X, Wires: []int{0}}}}, api.OK)
}

package pebble

import (
	"slices"
	"testing"

	"spoondrift/api"
)

// P9.5: the positions of all games, on all small graphs and on some large ones.
func TestClosed(t *testing.T) {
	wantClosed := func(d api.Dag) {
		t.Helper()
		for pebbles := range MaxNodes + 1 {
			l, e := Closed(d, pebbles)
			want(t, []any{d, pebbles}, l, e, leads(d, pebbles), api.OK)
		}
		for _, pebbles := range []int{smallest, -1, MaxNodes + 1, greatest} {
			l, e := Closed(d, pebbles)
			want(t, []any{d, pebbles}, l, e, []int{}, api.ErrRange)
		}
	}
	for nodes := 1; nodes <= 4; nodes++ {
		for _, d := range graphs(nodes) {
			wantClosed(d)
		}
	}
	s := from(6)
	for i := range 20 {
		wantClosed(s.graph(5 + i%4))
	}
	wantClosed(line(MaxNodes))
	l, e := Closed(api.Dag{Needs: make([][]int, MaxNodes)}, MaxNodes)
	if len(l) != 1<<MaxNodes || e != api.OK {
		t.Error(len(l), e)
	}
}

// P9.5: all sets of positions of graphs of up to three nodes.
func TestShowsOfAll(t *testing.T) {
	shown := 0
	for nodes := 1; nodes <= 3; nodes++ {
		for _, d := range graphs(nodes) {
			for _, positions := range lists(1<<nodes, 1<<nodes) {
				for pebbles := range nodes + 1 {
					for _, goals := range lists(nodes, nodes)[1:] {
						wanted := showsThat(d, goals, pebbles, positions)
						if wanted {
							shown++
						}
						is, e := Shows(d, goals, pebbles, positions)
						want(t, []any{d, goals, pebbles, positions}, is, e, wanted, api.OK)
					}
				}
			}
		}
	}
	if shown < 1000 {
		t.Error(shown)
	}
}

// P9.5: the positions of Closed, and lists that are near them: one position less or more, not rising, or twice.
func TestShowsNear(t *testing.T) {
	s := from(7)
	found := map[bool]int{}
	for i := range 600 {
		d := s.graph(2 + i%7)
		goals := s.goals(len(d.Needs))
		pebbles := s.Intn(len(d.Needs) + 1)
		closed := must(Closed(d, pebbles))
		less := slices.Delete(slices.Clone(closed), 0, 1)
		k := s.Intn(len(closed))
		other := slices.Delete(slices.Clone(closed), k, k+1)
		more := append(slices.Clone(closed), s.Intn(1<<len(d.Needs)))
		slices.Sort(more)
		turned := slices.Clone(closed)
		slices.Reverse(turned)
		twice := slices.Insert(slices.Clone(closed), k, closed[k])
		for _, positions := range [][]int{closed, nil, less, other, more, slices.Compact(slices.Clone(more)), turned, twice} {
			wanted := showsThat(d, goals, pebbles, positions)
			found[wanted]++
			is, e := Shows(d, goals, pebbles, positions)
			want(t, []any{d, goals, pebbles, positions}, is, e, wanted, api.OK)
		}
	}
	if found[true] < 100 || found[false] < 100 {
		t.Error(found)
	}
}

// P9.5: positions that have more pebbles than are played with may be there, if what they lead to is.
func TestShowsMore(t *testing.T) {
	for _, x := range []struct {
		pebbles   int
		positions []int
		is        bool
	}{
		{0, []int{0}, true},
		{0, []int{0, 15}, true},
		{2, []int{0, 1, 2, 3, 6}, true},
		{2, []int{0, 1, 2, 3, 6, 15}, true},
		{2, []int{0, 1, 2, 3, 6, 14}, false}, // 14 leads to 10, which is not there
		{2, []int{0, 1, 2, 3, 6, 12}, false},
		{1, []int{0, 1, 2, 3, 6}, true},
		{3, []int{0, 1, 2, 3, 6}, false},
	} {
		is, e := Shows(line(4), []int{3}, x.pebbles, x.positions)
		want(t, x, is, e, x.is, api.OK)
	}
}

// P9.5: numbers that are not allowed, of pebbles and of positions, which are all asked before anything is shown.
func TestShowsRange(t *testing.T) {
	for _, wrong := range []struct {
		pebbles   int
		positions []int
	}{
		{-1, []int{0}},
		{smallest, nil},
		{MaxNodes + 1, []int{0, 1}},
		{greatest, nil},
		{2, []int{8}},
		{2, []int{-1}},
		{2, []int{0, 1, greatest}},
		{2, []int{3, 3, 0, smallest}},
		{0, append(make([]int, 5000), 8)},
	} {
		is, e := Shows(line(3), []int{2}, wrong.pebbles, wrong.positions)
		want(t, wrong, is, e, false, api.ErrRange)
	}
	is, e := Shows(line(3), []int{2}, MaxNodes, []int{7})
	want(t, "last", is, e, false, api.OK)
	is, e = Shows(line(3), []int{2}, 0, make([]int, 5000))
	want(t, "many", is, e, false, api.OK)
}

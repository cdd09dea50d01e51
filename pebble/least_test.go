package pebble

import (
	"testing"

	"spoondrift/api"
)

// wantLeast fails the test unless Least, Trade and Shortest answer the chapter's words.
func wantLeast(t *testing.T, d api.Dag, goals []int) {
	t.Helper()
	what := []any{d, goals}
	trade := tradeOf(d, goals)
	got, e := Trade(d, goals)
	want(t, what, got, e, trade, api.OK)
	n, e := Least(d, goals)
	want(t, what, n, e, trade[0][0], api.OK)
	for pebbles := 1; pebbles <= MaxNodes; pebbles++ {
		game := shortestGame(d, goals, pebbles)
		wantedError := api.OK
		if game == nil {
			wantedError = api.ErrNone
		}
		l, e := Shortest(d, goals, pebbles)
		want(t, what, l, e, game, wantedError)
	}
}

// P9.4: all goals of all small graphs.
func TestLeastOfAll(t *testing.T) {
	for nodes := 1; nodes <= 4; nodes++ {
		for _, d := range graphs(nodes) {
			for _, goals := range lists(nodes, nodes)[1:] {
				wantLeast(t, d, goals)
			}
		}
	}
}

// P9.4: all lists of moves of small graphs are gone through, in lexicographic order, by how many there are.
func TestShortestOfAllLists(t *testing.T) {
	for _, d := range graphs(3) {
		found := map[[2]int][]int{}
		for many := 1; many <= 6; many++ {
			var walk func(moves []int)
			walk = func(moves []int) {
				l, e := played(d, moves)
				if e != api.OK {
					return
				}
				if len(moves) < many {
					for node := range d.Needs {
						walk(append(moves, node))
					}
					return
				}
				most := 0
				for _, x := range l {
					most = max(most, countOf(x))
				}
				for pebbles := most; pebbles <= 3; pebbles++ {
					key := [2]int{l[many], pebbles}
					if found[key] == nil {
						found[key] = append([]int{}, moves...)
					}
				}
			}
			walk(make([]int, 0, many))
		}
		for _, goals := range lists(3, 3)[1:] {
			for pebbles := 1; pebbles <= 3; pebbles++ {
				game := found[[2]int{goalNumber(goals), pebbles}]
				wantedError := api.OK
				if game == nil {
					wantedError = api.ErrNone
				}
				l, e := Shortest(d, goals, pebbles)
				want(t, []any{d, goals, pebbles}, l, e, game, wantedError)
			}
		}
	}
}

// P9.4: some goals of large graphs, and lines up to the longest one.
func TestLeastOfLarge(t *testing.T) {
	s := from(5)
	for i := range 24 {
		d := s.graph(5 + i%4)
		wantLeast(t, d, s.goals(len(d.Needs)))
	}
	wantLeast(t, must(Tree(3)), []int{6})
	for n := 5; n <= 7; n++ {
		wantLeast(t, line(n), []int{n - 1})
	}
	least := []int{1, 2, 3, 3, 4, 4, 4, 4, 5, 5}
	for n := 1; n <= MaxNodes; n++ {
		pebbles, e := Least(line(n), []int{n - 1})
		want(t, n, pebbles, e, least[n-1], api.OK)
	}
}

// P9.4: numbers of pebbles that are not allowed, and those that are too few.
func TestPebbles(t *testing.T) {
	d := line(4)
	for _, pebbles := range []int{smallest, -1, 0, MaxNodes + 1, greatest} {
		l, e := Shortest(d, []int{3}, pebbles)
		want(t, pebbles, l, e, []int{}, api.ErrRange)
	}
	for _, pebbles := range []int{1, 2} {
		l, e := Shortest(d, []int{3}, pebbles)
		want(t, pebbles, l, e, []int{}, api.ErrNone)
	}
	for _, pebbles := range []int{4, 5, MaxNodes} {
		l, e := Shortest(d, []int{3}, pebbles)
		want(t, pebbles, l, e, []int{0, 1, 2, 3, 2, 1, 0}, api.OK)
	}
	all := []int{0, 1, 2, 3}
	l, e := Shortest(d, all, 3)
	want(t, all, l, e, []int{}, api.ErrNone)
	l, e = Shortest(d, all, 4)
	want(t, all, l, e, all, api.OK)
}

package pebble

import (
	"slices"
	"testing"

	"spoondrift/api"
)

// wantGame fails the test unless all functions that play a game answer the chapter's words.
func wantGame(t *testing.T, d api.Dag, moves []int) {
	t.Helper()
	positions, wantedError := played(d, moves)
	most := 0
	for _, x := range positions {
		most = max(most, countOf(x))
	}
	var c api.Circuit
	if wantedError == api.OK {
		c = circuitOf(d, moves)
	}
	what := []any{d, moves}
	l, e := Play(d, moves)
	want(t, what, l, e, positions, wantedError)
	n, e := Most(d, moves)
	want(t, what, n, e, most, wantedError)
	made, e := Circuit(d, moves)
	want(t, what, made, e, c, wantedError)
	for _, goals := range lists(min(len(d.Needs), 4), 4)[1:] {
		is, e := Reaches(d, goals, moves)
		want(t, what, is, e, wantedError == api.OK && positions[len(moves)] == goalNumber(goals), wantedError)
	}
}

// P9.2, P9.6: all lists of a few moves on all small graphs, with nodes that do not exist among them.
func TestAllGames(t *testing.T) {
	for nodes := 1; nodes <= 3; nodes++ {
		for _, d := range graphs(nodes) {
			var walk func(moves []int)
			walk = func(moves []int) {
				wantGame(t, d, moves)
				if len(moves) == 5 {
					return
				}
				for node := range nodes {
					walk(append(slices.Clone(moves), node))
				}
				for _, node := range []int{-1, nodes} {
					wantGame(t, d, append(slices.Clone(moves), node, 0))
				}
			}
			walk(nil)
		}
	}
}

// P9.2, P9.6: long games on large graphs, up to the limits, with moves that are wrong somewhere.
func TestLongGames(t *testing.T) {
	s := from(3)
	for i := range 400 {
		d := s.graph(1 + i%MaxNodes)
		moves := s.game(d, s.Intn(MaxMoves+1))
		wantGame(t, d, moves)
		if len(moves) > 0 {
			moves[s.Intn(len(moves))] = []int{smallest, -1, len(d.Needs), greatest, s.Intn(len(d.Needs))}[i%5]
			wantGame(t, d, moves)
		}
	}
	d := line(2)
	wantGame(t, d, make([]int, MaxMoves))
	for _, moves := range [][]int{make([]int, MaxMoves+1), slices.Repeat([]int{1}, MaxMoves+1), slices.Repeat([]int{-1}, 9999)} {
		wantGame(t, d, moves)
		for _, f := range gameCalls(d, moves) {
			if got, e := f.do(); !isZero(got) || e != api.ErrMany {
				t.Error(f.name, got, e)
			}
		}
	}
}

// P9.2: the first move that is wrong decides.
func TestFirstWrongMove(t *testing.T) {
	for _, wrong := range []struct {
		moves []int
		e     api.Errno
	}{
		{[]int{1, 9}, api.ErrOrder},
		{[]int{9, 1}, api.ErrNot},
		{[]int{0, 2, 9}, api.ErrOrder},
		{[]int{0, 1, 0, 1}, api.ErrOrder},
		{[]int{0, 1, 2, 0, 1}, api.ErrOrder},
		{[]int{0, -1, 1}, api.ErrNot},
		{[]int{0, 1, 2, 3}, api.ErrNot},
	} {
		for _, f := range gameCalls(line(3), wrong.moves) {
			if got, e := f.do(); !isZero(got) || e != wrong.e {
				t.Error(f.name, wrong.moves, got, e, wrong.e)
			}
		}
		is, e := Reaches(line(3), []int{2}, wrong.moves)
		want(t, wrong.moves, is, e, false, wrong.e)
	}
}

// P9.2, P9.3: what is needed, and plain games, for all goals of small graphs and some of large ones.
func TestNeededAndPlain(t *testing.T) {
	wantBoth := func(d api.Dag, goals []int) {
		t.Helper()
		l, e := Needed(d, goals)
		want(t, []any{d, goals}, l, e, neededFor(d, goals), api.OK)
		l, e = Plain(d, goals)
		want(t, []any{d, goals}, l, e, plainGame(d, goals), api.OK)
	}
	for nodes := 1; nodes <= 5; nodes++ {
		for _, d := range graphs(nodes) {
			for _, goals := range lists(nodes, nodes)[1:] {
				wantBoth(d, goals)
			}
		}
	}
	s := from(4)
	for i := range 1000 {
		d := s.graph(1 + i%MaxNodes)
		wantBoth(d, s.goals(len(d.Needs)))
	}
	wantBoth(line(MaxNodes), []int{MaxNodes - 1})
	wantBoth(line(MaxNodes), lists(MaxNodes, MaxNodes)[1<<MaxNodes-1])
}

// P9.3: Bennett's games of all lines.
func TestBennett(t *testing.T) {
	for n := 1; n <= MaxNodes; n++ {
		l, e := Bennett(n)
		want(t, n, l, e, bennettGame(0, n), api.OK)
	}
	l, e := Bennett(5)
	want(t, 5, l, e, []int{0, 1, 0, 2, 0, 1, 0, 3, 4, 3, 0, 1, 0, 2, 0, 1, 0}, api.OK)
	for _, n := range []int{smallest, -1, 0, MaxNodes + 1, greatest} {
		l, e := Bennett(n)
		want(t, n, l, e, []int{}, api.ErrMany)
	}
}

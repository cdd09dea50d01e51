package pebble

import (
	"slices"
	"testing"

	"spoondrift/api"
	"spoondrift/rev"
)

// gamesOf are games that reach goals: the plain one, and the shortest ones.
func gamesOf(d api.Dag, goals []int) [][]int {
	l := [][]int{must(Plain(d, goals))}
	for _, pair := range must(Trade(d, goals)) {
		l = append(l, must(Shortest(d, goals, pair[0])))
	}
	return l
}

// wantCleanGame fails the test unless the circuit of a game that reaches goals makes of noughts just the state in
// which they are 1, and is clean of all other wires.
func wantCleanGame(t *testing.T, d api.Dag, goals, moves []int) {
	t.Helper()
	is, e := Reaches(d, goals, moves)
	want(t, []any{d, goals, moves}, is, e, true, api.OK)
	c := must(Circuit(d, moves))
	made, e := rev.Apply(c, 0)
	want(t, c, made, e, goalNumber(goals), api.OK)
	var others []int
	for k := range d.Needs {
		if !slices.Contains(goals, k) {
			others = append(others, k)
		}
	}
	state, e := rev.Clean(c, others)
	want(t, c, state, e, 0, api.ErrNone)
}

// P9.7: a game that reaches goals leaves nothing behind.
func TestNothingIsLeft(t *testing.T) {
	for nodes := 1; nodes <= 4; nodes++ {
		for _, d := range graphs(nodes) {
			for _, goals := range lists(nodes, nodes)[1:] {
				for _, moves := range gamesOf(d, goals) {
					wantCleanGame(t, d, goals, moves)
				}
			}
		}
	}
	s := from(8)
	for i := range 60 {
		d := s.graph(1 + i%MaxNodes)
		moves := s.game(d, s.Intn(MaxMoves+1))
		l := must(Play(d, moves))
		var goals []int
		for k, is := range valuesOf(l[len(moves)], len(d.Needs)) {
			if is {
				goals = append(goals, k)
			}
		}
		if len(goals) > 0 {
			wantCleanGame(t, d, goals, moves)
		}
	}
}

// P9.7: the circuit of any game goes through its positions.
func TestCircuitGoesThroughPositions(t *testing.T) {
	s := from(9)
	for i := range 100 {
		d := s.graph(1 + i%MaxNodes)
		moves := s.game(d, 20)
		for many, wanted := range must(Play(d, moves)) {
			made, e := rev.Apply(must(Circuit(d, moves[:many])), 0)
			want(t, d, made, e, wanted, api.OK)
		}
	}
}

// P9.7: games can be played backwards.
func TestBackwards(t *testing.T) {
	s := from(10)
	for i := range 200 {
		d := s.graph(1 + i%MaxNodes)
		moves := s.game(d, s.Intn(MaxMoves/2+1))
		there := must(Play(d, moves))
		back := slices.Clone(moves)
		slices.Reverse(back)
		both, e := Play(d, append(slices.Clone(moves), back...))
		turned := slices.Clone(there[:len(moves)])
		slices.Reverse(turned)
		want(t, d, both, e, append(there, turned...), api.OK)
	}
}

// P9.7: Bennett's game of a line of 2^k nodes has 3^k moves and needs k and 1 pebbles; each reaches the last node.
func TestBennettsNumbers(t *testing.T) {
	moves, nodes := 1, 1
	for k := range 4 {
		l := must(Bennett(nodes))
		most, e := Most(line(nodes), l)
		want(t, k, most, e, k+1, api.OK)
		if len(l) != moves {
			t.Error(k, len(l), moves)
		}
		moves, nodes = 3*moves, 2*nodes
	}
	for n := 1; n <= MaxNodes; n++ {
		l := must(Bennett(n))
		wantCleanGame(t, line(n), []int{n - 1}, l)
		if must(Least(line(n), []int{n - 1})) > must(Most(line(n), l)) {
			t.Error(n)
		}
	}
}

// wantNothingLess fails the test unless no number of pebbles less than the least one does, as Closed of one less
// shows, and more pebbles never make the shortest game longer.
func wantNothingLess(t *testing.T, d api.Dag, goals []int) {
	t.Helper()
	least := must(Least(d, goals))
	last := 0
	for pebbles := range MaxNodes + 1 {
		is, e := Shows(d, goals, pebbles, must(Closed(d, pebbles)))
		want(t, []any{d, goals, pebbles}, is, e, pebbles < least, api.OK)
		if pebbles == 0 {
			continue
		}
		game, e := Shortest(d, goals, pebbles)
		if (e == api.OK) != (pebbles >= least) {
			t.Error(d, goals, pebbles, e)
		}
		if e == api.OK && last > 0 && len(game) > last {
			t.Error(d, goals, pebbles, len(game), last)
		}
		if e == api.OK && must(Most(d, game)) > pebbles {
			t.Error(d, goals, pebbles, game)
		}
		last = len(game)
	}
	plain := must(Plain(d, goals))
	if most := must(Most(d, plain)); most < least || last > len(plain) {
		t.Error(d, goals, most, least, last)
	}
}

// P9.7: no number of pebbles less than the least one does.
func TestNothingLess(t *testing.T) {
	for nodes := 1; nodes <= 4; nodes++ {
		for _, d := range graphs(nodes) {
			for _, goals := range lists(nodes, nodes)[1:] {
				wantNothingLess(t, d, goals)
			}
		}
	}
	s := from(11)
	for i := range 30 {
		d := s.graph(1 + i%MaxNodes)
		wantNothingLess(t, d, s.goals(len(d.Needs)))
	}
	wantNothingLess(t, line(MaxNodes), []int{MaxNodes - 1})
}

// P9.7: what shows that so many pebbles do not do has all positions of Closed.
func TestShownHasClosed(t *testing.T) {
	shown := 0
	for _, d := range graphs(3) {
		for pebbles := range 4 {
			closed := must(Closed(d, pebbles))
			for _, positions := range lists(8, 8) {
				for _, goals := range lists(3, 3)[1:] {
					if !must(Shows(d, goals, pebbles, positions)) {
						continue
					}
					shown++
					if slices.ContainsFunc(closed, func(x int) bool { return !slices.Contains(positions, x) }) {
						t.Error(d, goals, pebbles, positions, closed)
					}
				}
			}
		}
	}
	if shown < 100 {
		t.Error(shown)
	}
}

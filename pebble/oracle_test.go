package pebble

import (
	"fmt"
	"math/rand"
	"slices"
	"testing"

	"spoondrift/api"
)

// The greatest integer, and the smallest one.
const (
	greatest = 1<<63 - 1
	smallest = -1 << 63
)

// graph is a graph, by what each node needs.
func graph(needs ...[]int) api.Dag { return api.Dag{Needs: needs} }

// line is a line of nodes.
func line(n int) api.Dag {
	d := graph(nil)
	for node := 1; node < n; node++ {
		d.Needs = append(d.Needs, []int{node - 1})
	}
	return d
}

// The words of the chapter, as they are said there. A position is a list of values at work: which nodes have pebbles.

// valuesOf are the nodes that have pebbles in the position with a number.
func valuesOf(number, nodes int) []bool {
	l := make([]bool, nodes)
	for k := range l {
		l[k] = number/(1<<k)%2 == 1
	}
	return l
}

// numberOf is the number of a position.
func numberOf(l []bool) int {
	sum := 0
	for k, is := range l {
		if is {
			sum += 1 << k
		}
	}
	return sum
}

// countOf is how many pebbles there are in the position with a number.
func countOf(number int) int {
	count := 0
	for ; number > 0; number /= 2 {
		count += number % 2
	}
	return count
}

// moved is the number of the position behind a move, or -1 if it may not be made.
func moved(d api.Dag, number, node int) int {
	l := valuesOf(number, len(d.Needs))
	for _, k := range d.Needs[node] {
		if !l[k] {
			return -1
		}
	}
	l[node] = !l[node]
	return numberOf(l)
}

// played are the positions of a game, and the error of Play for its moves.
func played(d api.Dag, moves []int) ([]int, api.Errno) {
	if len(moves) > MaxMoves {
		return nil, api.ErrMany
	}
	l := []int{0}
	for _, node := range moves {
		if node < 0 || node >= len(d.Needs) {
			return nil, api.ErrNot
		}
		next := moved(d, l[len(l)-1], node)
		if next < 0 {
			return nil, api.ErrOrder
		}
		l = append(l, next)
	}
	return l, api.OK
}

// goalNumber is the number of the position in which just the goals have pebbles.
func goalNumber(goals []int) int {
	sum := 0
	for _, k := range goals {
		sum += 1 << k
	}
	return sum
}

// neededFor are the nodes that are needed for goals: what is needed is added until there is nothing new.
func neededFor(d api.Dag, goals []int) []int {
	l := slices.Clone(goals)
	for i := 0; i < len(l); i++ {
		for _, k := range d.Needs[l[i]] {
			if !slices.Contains(l, k) {
				l = append(l, k)
			}
		}
	}
	slices.Sort(l)
	return l
}

// plainGame is the game that makes all that is needed, and takes away what is no goal.
func plainGame(d api.Dag, goals []int) []int {
	needed := neededFor(d, goals)
	l := slices.Clone(needed)
	for i := len(needed) - 1; i >= 0; i-- {
		if !slices.Contains(goals, needed[i]) {
			l = append(l, needed[i])
		}
	}
	return l
}

// bennettGame is Bennett's game of m nodes that begin with a.
func bennettGame(a, m int) []int {
	if m == 1 {
		return []int{a}
	}
	h := m/2 + m%2
	l := append(bennettGame(a, h), bennettGame(a+h, m-h)...)
	back := bennettGame(a, h)
	for i := len(back) - 1; i >= 0; i-- {
		l = append(l, back[i])
	}
	return l
}

// leads are the positions to which games lead that are played with at most so many pebbles.
func leads(d api.Dag, pebbles int) []int {
	l := []int{0}
	for i := 0; i < len(l); i++ {
		for node := range d.Needs {
			if next := moved(d, l[i], node); next >= 0 && countOf(next) <= pebbles && !slices.Contains(l, next) {
				l = append(l, next)
			}
		}
	}
	slices.Sort(l)
	return l
}

// shortestGame is the first one of the shortest games, or nil if there is none. It goes through all games, by how many
// moves they have: of those that lead to the same position the first one in lexicographic order is kept, as whatever
// comes behind it may come behind the others.
func shortestGame(d api.Dag, goals []int, pebbles int) []int {
	end := goalNumber(goals)
	if !slices.Contains(leads(d, pebbles), end) {
		return nil
	}
	games := map[int][]int{0: nil}
	for {
		longer := map[int][]int{}
		for from, game := range games {
			for node := range d.Needs {
				next := moved(d, from, node)
				if next < 0 || countOf(next) > pebbles {
					continue
				}
				other, is := longer[next]
				own := append(slices.Clone(game), node)
				if !is || slices.Compare(own, other) < 0 {
					longer[next] = own
				}
			}
		}
		games = longer
		if game, is := games[end]; is {
			return game
		}
	}
}

// tradeOf are the pairs of Trade.
func tradeOf(d api.Dag, goals []int) [][2]int {
	var l [][2]int
	for pebbles := 1; pebbles <= MaxNodes; pebbles++ {
		game := shortestGame(d, goals, pebbles)
		if game == nil {
			continue
		}
		if less := shortestGame(d, goals, pebbles-1); less == nil || len(game) < len(less) {
			l = append(l, [2]int{pebbles, len(game)})
		}
	}
	return l
}

// showsThat is what Shows says of right arguments.
func showsThat(d api.Dag, goals []int, pebbles int, positions []int) bool {
	for i, x := range positions {
		if i > 0 && x <= positions[i-1] {
			return false
		}
		for node := range d.Needs {
			next := moved(d, x, node)
			if next >= 0 && countOf(next) <= pebbles && !slices.Contains(positions, next) {
				return false
			}
		}
	}
	return slices.Contains(positions, 0) && !slices.Contains(positions, goalNumber(goals))
}

// circuitOf is the circuit of a game.
func circuitOf(d api.Dag, moves []int) api.Circuit {
	c := api.Circuit{Wires: len(d.Needs)}
	for _, node := range moves {
		needs := d.Needs[node]
		switch len(needs) {
		case 0:
			c.Gates = append(c.Gates, api.Gate{Kind: api.X, Wires: []int{node}})
		case 1:
			c.Gates = append(c.Gates, api.Gate{Kind: api.CX, Wires: []int{needs[0], node}})
		default:
			c.Gates = append(c.Gates, api.Gate{Kind: api.CCX, Wires: []int{needs[0], needs[1], node}})
		}
	}
	return c
}

// All of them, and samples, always the same ones.

// lists are all lists of at most so many different numbers below n, rising.
func lists(n, most int) [][]int {
	var l [][]int
	for number := range 1 << n {
		var list []int
		for k, is := range valuesOf(number, n) {
			if is {
				list = append(list, k)
			}
		}
		if len(list) <= most {
			l = append(l, list)
		}
	}
	return l
}

// graphs are all graphs of so many nodes.
func graphs(nodes int) []api.Dag {
	l := []api.Dag{graph()}
	for node := range nodes {
		var longer []api.Dag
		for _, d := range l {
			for _, needs := range lists(node, MaxNeeds) {
				longer = append(longer, graph(append(slices.Clone(d.Needs), needs)...))
			}
		}
		l = longer
	}
	return l
}

// source makes samples.
type source struct{ *rand.Rand }

// from is a source.
func from(seed int64) source { return source{rand.New(rand.NewSource(seed))} }

// graph is any graph of so many nodes.
func (s source) graph(nodes int) api.Dag {
	var d api.Dag
	for node := range nodes {
		many := min(node, []int{0, 1, 1, 2, 2}[s.Intn(5)])
		needs := s.Perm(node)[:many]
		slices.Sort(needs)
		d.Needs = append(d.Needs, needs)
	}
	return d
}

// goals are some nodes, rising, at least one.
func (s source) goals(nodes int) []int {
	l := s.Perm(nodes)[:1+s.Intn(min(nodes, 3))]
	slices.Sort(l)
	return l
}

// game is any game of so many moves.
func (s source) game(d api.Dag, moves int) []int {
	var l []int
	for now := 0; len(l) < moves; {
		node := s.Intn(len(d.Needs))
		if next := moved(d, now, node); next >= 0 {
			now = next
			l = append(l, node)
		}
	}
	return l
}

// textOf tells all of a value; nil and an empty list are the same.
func textOf(x any) string { return fmt.Sprintf("%+v", x) }

// want fails the test if a result is not the one that is wanted.
func want(t *testing.T, what, got any, e api.Errno, wanted any, f api.Errno) {
	t.Helper()
	if textOf(got) != textOf(wanted) || e != f {
		t.Errorf("%v: %v, error %d; want %v, error %d", what, got, e, wanted, f)
	}
}

// must returns a result that has no error.
func must[T any](result T, e api.Errno) T {
	if e != api.OK {
		panic(e)
	}
	return result
}

// call is a function that returns a result and an error, with what it takes already chosen.
type call struct {
	name string
	do   func() (any, api.Errno)
}

// named is a call of a function.
func named[T any](name string, do func() (T, api.Errno)) call {
	return call{name, func() (any, api.Errno) {
		result, e := do()
		return result, e
	}}
}

// goalCalls are all functions with goals.
func goalCalls(d api.Dag, goals, moves []int, pebbles int) []call {
	return []call{
		named("Needed", func() ([]int, api.Errno) { return Needed(d, goals) }),
		named("Reaches", func() (bool, api.Errno) { return Reaches(d, goals, moves) }),
		named("Plain", func() ([]int, api.Errno) { return Plain(d, goals) }),
		named("Least", func() (int, api.Errno) { return Least(d, goals) }),
		named("Shortest", func() ([]int, api.Errno) { return Shortest(d, goals, pebbles) }),
		named("Trade", func() ([][2]int, api.Errno) { return Trade(d, goals) }),
		named("Shows", func() (bool, api.Errno) { return Shows(d, goals, pebbles, moves) }),
	}
}

// gameCalls are all functions that play a game, which have the errors of Play alone.
func gameCalls(d api.Dag, moves []int) []call {
	return []call{
		named("Play", func() ([]int, api.Errno) { return Play(d, moves) }),
		named("Most", func() (int, api.Errno) { return Most(d, moves) }),
		named("Circuit", func() (api.Circuit, api.Errno) { return Circuit(d, moves) }),
	}
}

// graphCalls are all functions with graphs.
func graphCalls(d api.Dag, goals, moves []int, pebbles int) []call {
	return slices.Concat(goalCalls(d, goals, moves, pebbles), gameCalls(d, moves), []call{
		named("Check", func() (int, api.Errno) { return 0, Check(d) }),
		named("Closed", func() ([]int, api.Errno) { return Closed(d, pebbles) }),
	})
}

// numberCalls are the functions that take a number alone.
func numberCalls(n int) []call {
	return []call{
		named("Line", func() (api.Dag, api.Errno) { return Line(n) }),
		named("Tree", func() (api.Dag, api.Errno) { return Tree(n) }),
		named("Bennett", func() ([]int, api.Errno) { return Bennett(n) }),
	}
}

// isZero reports whether a result is zero.
func isZero(x any) bool {
	for _, zero := range []any{0, false, []int(nil), [][2]int(nil), api.Dag{}, api.Circuit{}} {
		if fmt.Sprintf("%T", x) == fmt.Sprintf("%T", zero) {
			return textOf(x) == textOf(zero)
		}
	}
	return false
}

package rev

import (
	"slices"
	"testing"

	"spoondrift/api"
)

// wideError is the error of Wide.
func wideError(p []int) api.Errno {
	if widths[len(p)] == 0 {
		return api.ErrMany
	}
	twice := false
	for i, x := range p {
		if x < 0 || x >= len(p) {
			return api.ErrRange
		}
		twice = twice || slices.Contains(p[:i], x)
	}
	if twice {
		return api.ErrTwice
	}
	return api.OK
}

// wantWide fails the test if the functions with permutations have another error than Wide must have.
func wantWide(t *testing.T, p []int, most int) {
	t.Helper()
	wanted := wideError(p)
	wide, e := Wide(p)
	if wanted == api.OK {
		want(t, p, wide, e, widths[len(p)], api.OK)
		return
	}
	for _, f := range permutationCalls(p, most) {
		if got, e := f.do(); !isZero(got) || e != wanted {
			t.Error(f.name, p, got, e, wanted)
		}
	}
}

// P8.2: of all lists of up to four numbers just those are permutations that have each number once.
func TestWide(t *testing.T) {
	var walk func(l []int)
	walk = func(l []int) {
		wantWide(t, l, 9)
		if len(l) == 5 {
			return
		}
		for x := -1; x <= 5; x++ {
			walk(append(l, x))
		}
	}
	walk(nil)
}

// P8.2: longer lists, and numbers far outside.
func TestWideLong(t *testing.T) {
	s := from(6)
	for range 2000 {
		p := s.Perm(8)
		wantWide(t, p, 1)
		changed := slices.Clone(p)
		for range 1 + s.Intn(3) {
			changed[s.Intn(8)] = []int{s.Intn(8), s.Intn(8), -1, 8, smallest, greatest}[s.Intn(6)]
		}
		wantWide(t, changed, -1)
	}
	for n := range 70 {
		wantWide(t, s.Perm(n), 5)
		wantWide(t, make([]int, n), 5)
	}
}

// P8.2: the circuit of each permutation, by the words of the chapter.
func TestCircuit(t *testing.T) {
	for _, n := range []int{2, 4, 8} {
		for _, p := range permutations(n) {
			c, e := Circuit(p)
			want(t, p, c, e, made(p), api.OK)
		}
	}
}

// P8.2: the cycles of each permutation, and whether it is even: whether it puts an even number of pairs the other way
// round.
func TestCycles(t *testing.T) {
	for _, n := range []int{2, 4, 8} {
		for _, p := range permutations(n) {
			var wanted [][]int
			seen := make([]bool, n)
			turned := 0
			for i, x := range p {
				for _, y := range p[:i] {
					if y > x {
						turned++
					}
				}
				if seen[i] || x == i {
					continue
				}
				cycle := []int{i}
				for seen[i] = true; !seen[x]; x = p[x] {
					seen[x] = true
					cycle = append(cycle, x)
				}
				wanted = append(wanted, cycle)
			}
			cycles, e := Cycles(p)
			want(t, p, cycles, e, wanted, api.OK)
			is, e := Even(p)
			want(t, p, is, e, turned%2 == 0, api.OK)
		}
	}
}

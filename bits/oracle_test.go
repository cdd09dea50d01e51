package bits

import (
	"fmt"
	"math/rand"
	"slices"
	"testing"

	"spoondrift/api"
)

// The greatest integer, and the smallest one.
const (
	greatest = 1<<63 - 1
	smallest = -1 << 63
)

// sample is rows of n columns, and another list of such rows.
type sample struct {
	l, other []int
	n        int
}

// samples are rows of 1 to most columns, always the same ones: up to many rows, of all ranks, some of them 0 or the same.
func samples(count, most, many int) []sample {
	r := rand.New(rand.NewSource(5))
	rowsOf := func(n int) []int {
		l := make([]int, r.Intn(many+1))
		mask := r.Intn(1 << n)
		for i := range l {
			switch r.Intn(6) {
			case 0:
				l[i] = l[r.Intn(i+1)]
			case 1:
				l[i] = l[r.Intn(i+1)] ^ l[r.Intn(i+1)]
			case 2:
				l[i] = r.Intn(1 << n)
			default:
				l[i] = r.Intn(1<<n) & mask
			}
		}
		return l
	}
	all := make([]sample, count)
	for i := range all {
		n := 1 + i%most
		all[i] = sample{rowsOf(n), rowsOf(n), n}
	}
	return all
}

// ones counts the bits of x that are 1, one after the other.
func ones(x int) int {
	count := 0
	for ; x != 0; x /= 2 {
		count += x % 2
	}
	return count
}

// common tells how many columns both rows have in common.
func common(x, y int) int { return ones(x & y) }

// sumsOf are the sums of the rows whose numbers are the bits of each number.
func sumsOf(l []int) []int {
	sums := []int{0}
	for _, row := range l {
		for _, x := range slices.Clone(sums) {
			sums = append(sums, x^row)
		}
	}
	return sums
}

// spanOf tells, for each row of n columns, whether it is in the span.
func spanOf(l []int, n int) []bool {
	in := make([]bool, 1<<n)
	in[0] = true
	for _, row := range l {
		for x, is := range slices.Clone(in) {
			in[x^row] = in[x^row] || is
		}
	}
	return in
}

// orthogonalTo tells, for each row of n columns, whether it is orthogonal to all rows.
func orthogonalTo(l []int, n int) []bool {
	in := make([]bool, 1<<n)
	for x := range in {
		in[x] = !slices.ContainsFunc(l, func(y int) bool { return common(x, y)%2 != 0 })
	}
	return in
}

// reducedOf are the reduced rows of a span: for each lead the least member with it, as one that has another lead can be
// made less.
func reducedOf(in []bool, n int) []int {
	var l []int
	for lead := n - 1; lead >= 0; lead-- {
		for x := 1 << lead; x < 2<<lead; x++ {
			if in[x] {
				l = append(l, x)
				break
			}
		}
	}
	return l
}

// isReduced reports whether rows are reduced, by the words of the chapter.
func isReduced(l []int) bool {
	var leads []int
	for _, row := range l {
		lead := -1
		for k := range MaxCols {
			if row/(1<<k)%2 == 1 {
				lead = k
			}
		}
		if lead < 0 || len(leads) > 0 && lead >= leads[len(leads)-1] {
			return false
		}
		leads = append(leads, lead)
	}
	for i, lead := range leads {
		for j, row := range l {
			if i != j && row/(1<<lead)%2 == 1 {
				return false
			}
		}
	}
	return true
}

// appliedTo has bit i just if x and row i have an odd number in common.
func appliedTo(l []int, x int) int {
	result := 0
	for i, row := range l {
		result += common(row, x) % 2 * (1 << i)
	}
	return result
}

// wantRows fails the test if rows are not those that are wanted.
func wantRows(t *testing.T, what any, got []int, e api.Errno, want []int, f api.Errno) {
	t.Helper()
	if !slices.Equal(got, want) || e != f {
		t.Errorf("%v: %v, error %d; want %v, error %d", what, got, e, want, f)
	}
}

// want fails the test if a result is not the one that is wanted.
func want[T comparable](t *testing.T, what any, got T, e api.Errno, wanted T, f api.Errno) {
	t.Helper()
	if got != wanted || e != f {
		t.Errorf("%v: %v, error %d; want %v, error %d", what, got, e, wanted, f)
	}
}

// call is a function of rows, with what else it takes already chosen.
type call struct {
	name string
	do   func(l []int, n int) (any, api.Errno)
}

// calls are all functions of rows; row is what Member and the like take, b what Solve takes.
func calls(row, b int) []call {
	return []call{
		{"Rank", func(l []int, n int) (any, api.Errno) { x, e := Rank(l, n); return x, e }},
		{"Reduce", func(l []int, n int) (any, api.Errno) { x, e := Reduce(l, n); return x, e }},
		{"Same, first", func(l []int, n int) (any, api.Errno) { x, e := Same(l, []int{0}, n); return x, e }},
		{"Same, second", func(l []int, n int) (any, api.Errno) { x, e := Same([]int{0}, l, n); return x, e }},
		{"Member", func(l []int, n int) (any, api.Errno) { x, e := Member(l, n, row); return x, e }},
		{"Which", func(l []int, n int) (any, api.Errno) { x, e := Which(l, n, row); return x, e }},
		{"Null", func(l []int, n int) (any, api.Errno) { x, e := Null(l, n); return x, e }},
		{"Meet, first", func(l []int, n int) (any, api.Errno) { x, e := Meet(l, []int{0}, n); return x, e }},
		{"Meet, second", func(l []int, n int) (any, api.Errno) { x, e := Meet([]int{0}, l, n); return x, e }},
		{"Free", func(l []int, n int) (any, api.Errno) { x, e := Free(l, n); return x, e }},
		{"Solve", func(l []int, n int) (any, api.Errno) { x, e := Solve(l, n, b); return x, e }},
		{"Mul, first", func(l []int, n int) (any, api.Errno) { x, e := Mul(l, n, []int{0}, 1); return x, e }},
		{"Mul, second", func(l []int, n int) (any, api.Errno) { x, e := Mul([]int{1}, 16, l, n); return x, e }},
		{"Apply", func(l []int, n int) (any, api.Errno) { x, e := Apply(l, n, row); return x, e }},
		{"Transpose", func(l []int, n int) (any, api.Errno) { x, e := Transpose(l, n); return x, e }},
		{"Invert", func(l []int, n int) (any, api.Errno) { x, e := Invert(l, n); return x, e }},
		{"Weights", func(l []int, n int) (any, api.Errno) { x, e := Weights(l, n); return x, e }},
		{"Coset", func(l []int, n int) (any, api.Errno) { x, e := Coset(l, n, row); return x, e }},
	}
}

// isZero reports whether a result is 0, false, or no rows.
func isZero(x any) bool {
	return slices.Contains([]string{"0", "false", "[]"}, fmt.Sprint(x))
}

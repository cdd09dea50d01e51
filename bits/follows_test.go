package bits

import (
	"slices"
	"testing"

	"spoondrift/api"
)

// must returns a result, and fails the test with an error.
func must[T any](t *testing.T, result T, e api.Errno) T {
	t.Helper()
	if e != api.OK {
		t.Fatal("error", e)
	}
	return result
}

// someRows are all rows of n columns, or every 37th one if there are many.
func someRows(n int) []int {
	var l []int
	step := 1
	if n > 9 {
		step = 37
	}
	for row := 0; row < 1<<n; row += step {
		l = append(l, row)
	}
	return l
}

// P2.6: a row is in a span just if it is orthogonal to all that is orthogonal to the span.
func TestNullOfNull(t *testing.T) {
	for _, x := range samples(160, MaxCols, MaxRows) {
		reduced, e := Reduce(x.l, x.n)
		must(t, reduced, e)
		null, e := Null(x.l, x.n)
		must(t, null, e)
		back, e := Null(null, x.n)
		wantRows(t, x, back, e, reduced, api.OK)
		if len(reduced)+len(null) != x.n {
			t.Error("ranks of", x, len(reduced), len(null))
		}
		for _, row := range append(someRows(x.n), x.l...) {
			is, e := Member(x.l, x.n, row)
			common, f := Apply(null, x.n, row)
			if is != (common == 0) || e != api.OK || f != api.OK {
				t.Error(x, row, is, common)
			}
		}
	}
}

// P2.6: two lists have the same span just if their reduced rows are the same; reduced rows stay.
func TestReducedRowsTell(t *testing.T) {
	for _, x := range samples(480, MaxCols, 5) {
		a, e := Reduce(x.l, x.n)
		must(t, a, e)
		b, e := Reduce(x.other, x.n)
		must(t, b, e)
		same, e := Same(x.l, x.other, x.n)
		want(t, x, same, e, slices.Equal(a, b), api.OK)
		again, e := Reduce(a, x.n)
		wantRows(t, x, again, e, a, api.OK)
		same, e = Same(x.l, a, x.n)
		want(t, x, same, e, true, api.OK)
	}
}

// P2.6: what is solved solves; there is a solution of what is applied; what Which returns gives the row.
func TestSolvedSolves(t *testing.T) {
	for _, x := range samples(160, MaxCols, MaxRows) {
		for _, row := range x.other {
			b, e := Apply(x.l, x.n, row)
			must(t, b, e)
			solved, e := Solve(x.l, x.n, b)
			must(t, solved, e)
			again, e := Apply(x.l, x.n, solved)
			want(t, x, again, e, b, api.OK)
			if solved > row {
				t.Error("not the least:", x, row, solved)
			}
			which, e := Which(x.l, x.n, row)
			if e == api.OK && must(t, sumsGive(x.l, which), e) != row {
				t.Error("other row:", x, row, which)
			}
		}
	}
}

// sumsGive is the sum of the rows whose numbers are the bits of which.
func sumsGive(l []int, which int) int {
	sum := 0
	for i, row := range l {
		if which/(1<<i)%2 == 1 {
			sum ^= row
		}
	}
	return sum
}

// P2.6: what two spans have in common is orthogonal to what is orthogonal to one of them, and the ranks agree.
func TestMeetAndRanks(t *testing.T) {
	for _, x := range samples(320, MaxCols, MaxRows/2) {
		meet, e := Meet(x.l, x.other, x.n)
		must(t, meet, e)
		for _, l := range [][]int{x.l, x.other} {
			null, e := Null(l, x.n)
			must(t, null, e)
			for _, row := range meet {
				common, e := Apply(null, x.n, row)
				want(t, x, common, e, 0, api.OK)
			}
		}
		a, _ := Rank(x.l, x.n)
		b, _ := Rank(x.other, x.n)
		both, e := Rank(slices.Concat(x.l, x.other), x.n)
		want(t, x, both, e, a+b-len(meet), api.OK)
	}
}

// P2.6: Apply of a product is Apply after Apply.
func TestApplyOfProducts(t *testing.T) {
	for i, x := range samples(320, MaxCols, MaxRows) {
		square := squareOf(x.other, x.n, i%2 == 0)
		product, e := Mul(x.l, x.n, square, x.n)
		must(t, product, e)
		for _, row := range someRows(x.n) {
			inner, e := Apply(square, x.n, row)
			must(t, inner, e)
			outer, e := Apply(x.l, x.n, inner)
			must(t, outer, e)
			got, e := Apply(product, x.n, row)
			want(t, x, got, e, outer, api.OK)
		}
	}
}

// squareOf is n rows of n columns; each one has 1 in its own column, and none in those behind it, if it is to have an
// inverse, and then one of them is added to the first one.
func squareOf(l []int, n int, inverse bool) []int {
	square := append(slices.Clone(l), make([]int, n)...)[:n]
	if !inverse {
		return square
	}
	for k := range n {
		square[k] = square[k]%(1<<k) + 1<<k
	}
	if n > 1 {
		square[0] ^= square[n-1]
	}
	return square
}

// P2.6: a matrix times its inverse, either way round, is the identity.
func TestInverses(t *testing.T) {
	inverted := 0
	for i, x := range samples(480, MaxCols, MaxCols) {
		wantInverse(t, squareOf(x.l, x.n, i%3 != 0), x.n, &inverted)
	}
	if inverted < 320 || inverted == 480 {
		t.Error("inverted:", inverted)
	}
}

// P2.6: a matrix and the same one transposed have the same rank.
func TestRankOfTransposed(t *testing.T) {
	for _, x := range samples(480, MaxCols, MaxCols) {
		if len(x.l) == 0 {
			continue
		}
		columns, e := Transpose(x.l, x.n)
		must(t, columns, e)
		wanted, e := Rank(x.l, x.n)
		must(t, wanted, e)
		rank, e := Rank(columns, len(x.l))
		want(t, x, rank, e, wanted, api.OK)
		back, e := Transpose(columns, len(x.l))
		wantRows(t, x, back, e, x.l, api.OK)
	}
}

// wantInverse fails the test if a matrix of n rows times its inverse is not the identity, or if it has one and not
// the rank n, or the other way round.
func wantInverse(t *testing.T, l []int, n int, inverted *int) {
	t.Helper()
	rank, _ := Rank(l, n)
	inverse, e := Invert(l, n)
	if (e == api.OK) != (rank == n) || e != api.OK && e != api.ErrNone {
		t.Error(l, rank, e)
	}
	if e != api.OK {
		return
	}
	*inverted++
	identity, _ := Identity(n)
	product, e := Mul(l, n, inverse, n)
	wantRows(t, l, product, e, identity, api.OK)
	product, e = Mul(inverse, n, l, n)
	wantRows(t, l, product, e, identity, api.OK)
}

// P2.6: the weights of a span tell those of Null.
func TestWeightsOfNull(t *testing.T) {
	for _, x := range samples(160, MaxCols, MaxRows) {
		n := x.n
		rank, e := Rank(x.l, n)
		must(t, rank, e)
		null, e := Null(x.l, n)
		must(t, null, e)
		weights, e := Weights(x.l, n)
		must(t, weights, e)
		of, e := Weights(null, n)
		must(t, of, e)
		for j := range n + 1 {
			total := 0
			for k, many := range weights {
				total += many * signedChoices(n, j, k)
			}
			if total != of[j]<<rank {
				t.Error(x, j, total, of[j], rank)
			}
		}
	}
}

// signedChoices is K(j, k) of the chapter.
func signedChoices(n, j, k int) int {
	total := 0
	for i := range j + 1 {
		ways := choices(k, i) * choices(n-k, j-i)
		if i%2 != 0 {
			ways = -ways
		}
		total += ways
	}
	return total
}

// choices is the number of ways to choose k of n.
func choices(n, k int) int {
	if k < 0 || k > n {
		return 0
	}
	ways := 1
	for i := range k {
		ways = ways * (n - i) / (i + 1)
	}
	return ways
}

package bits

import (
	"slices"
	"testing"

	"spoondrift/api"
)

// P2.2: Reduce returns the reduced rows of the span, Rank how many they are.
func TestReduce(t *testing.T) {
	for _, x := range samples(480, 10, MaxRows) {
		in := spanOf(x.l, x.n)
		l, e := Reduce(x.l, x.n)
		wantRows(t, x, l, e, reducedOf(in, x.n), api.OK)
		if !isReduced(l) || !slices.Equal(spanOf(l, x.n), in) {
			t.Error("not the reduced rows of", x.l, ":", l)
		}
		rank, e := Rank(x.l, x.n)
		want(t, x, rank, e, len(l), api.OK)
	}
}

// P2.2: the edges: no rows, rows of 0, and all rows.
func TestReduceEdges(t *testing.T) {
	for n := 1; n <= MaxCols; n++ {
		for _, l := range [][]int{nil, {0}, make([]int, MaxRows)} {
			rank, e := Rank(l, n)
			want(t, l, rank, e, 0, api.OK)
			reduced, e := Reduce(l, n)
			wantRows(t, l, reduced, e, nil, api.OK)
		}
		var stairs, falling []int
		for k := range n {
			stairs = append(stairs, 2<<k-1)
			falling = append(falling, 1<<(n-1-k))
		}
		rank, e := Rank(stairs, n)
		want(t, n, rank, e, n, api.OK)
		reduced, e := Reduce(stairs, n)
		wantRows(t, n, reduced, e, falling, api.OK)
	}
}

// P2.2: Same compares spans, and nothing else.
func TestSame(t *testing.T) {
	same := 0
	for _, x := range samples(600, 6, 6) {
		wanted := slices.Equal(spanOf(x.l, x.n), spanOf(x.other, x.n))
		got, e := Same(x.l, x.other, x.n)
		want(t, x, got, e, wanted, api.OK)
		got, e = Same(x.other, x.l, x.n)
		want(t, x, got, e, wanted, api.OK)
		if wanted {
			same++
		}
		// Other rows with the same span, made of other rows.
		other := slices.Clone(x.l)
		for i := 1; i < len(other); i++ {
			other[i] ^= other[i-1]
		}
		slices.Reverse(other)
		got, e = Same(x.l, append(other, 0), x.n)
		want(t, x, got, e, true, api.OK)
	}
	if same < 20 || same > 500 {
		t.Error("the same:", same)
	}
}

// P2.2: Member and Which, for all rows, and the least one of all numbers that give a row.
func TestMemberAndWhich(t *testing.T) {
	for _, x := range samples(250, 7, 10) {
		in, sums := spanOf(x.l, x.n), sumsOf(x.l)
		for row := range in {
			is, e := Member(x.l, x.n, row)
			want(t, x, is, e, in[row], api.OK)
			which, e := Which(x.l, x.n, row)
			if in[row] {
				want(t, x, which, e, slices.Index(sums, row), api.OK)
			} else {
				want(t, x, which, e, 0, api.ErrNone)
			}
		}
	}
}

// P2.2: Which, with as many rows as there may be.
func TestWhichOfMany(t *testing.T) {
	for _, x := range []struct {
		l              []int
		n, row, wanted int
	}{
		{make([]int, MaxRows), 3, 0, 0},
		{append(make([]int, MaxRows-1), 5), 3, 5, 1 << 23},
		{append(make([]int, MaxRows-2), 5, 5), 3, 5, 1 << 22},
		{slices.Repeat([]int{1, 2, 3}, 8), 2, 3, 3},
		{[]int{1, 1, 2, 3, 2}, 2, 3, 5},
		{[]int{3, 1, 2}, 2, 2, 3},
		{[]int{3, 3, 1, 2}, 2, 2, 5},
		{[]int{0, 6, 5, 3, 1}, 3, 3, 6},
	} {
		got, e := Which(x.l, x.n, x.row)
		want(t, x, got, e, x.wanted, api.OK)
	}
	for _, x := range samples(32, MaxCols, MaxRows) {
		sums := sumsOf(x.l[:min(len(x.l), 16)])
		for i := range 40 {
			row := sums[len(sums)*i/40]
			got, e := Which(x.l, x.n, row)
			want(t, x, got, e, slices.Index(sums, row), api.OK)
		}
	}
}

// P2.3: Null and Meet return the reduced rows of what they are said to be.
func TestNullAndMeet(t *testing.T) {
	for _, x := range samples(400, 8, 9) {
		l, e := Null(x.l, x.n)
		wantRows(t, x, l, e, reducedOf(orthogonalTo(x.l, x.n), x.n), api.OK)
		both, other := spanOf(x.l, x.n), spanOf(x.other, x.n)
		for row := range both {
			both[row] = both[row] && other[row]
		}
		l, e = Meet(x.l, x.other, x.n)
		wantRows(t, x, l, e, reducedOf(both, x.n), api.OK)
	}
}

// P2.3: the edges of Null and Meet: with no rows, and with 16 columns and no rows to be orthogonal to.
func TestNullAndMeetEdges(t *testing.T) {
	for n := 1; n <= MaxCols; n++ {
		all, _ := Identity(n)
		falling := slices.Clone(all)
		slices.Reverse(falling)
		l, e := Null(nil, n)
		wantRows(t, n, l, e, falling, api.OK)
		l, e = Null(all, n)
		wantRows(t, n, l, e, nil, api.OK)
		l, e = Meet(nil, nil, n)
		wantRows(t, n, l, e, nil, api.OK)
		l, e = Meet(all, nil, n)
		wantRows(t, n, l, e, nil, api.OK)
		l, e = Meet(make([]int, MaxRows), all, n)
		wantRows(t, n, l, e, nil, api.OK)
		l, e = Meet(all, falling, n)
		wantRows(t, n, l, e, falling, api.OK)
	}
}

// P2.3: Free returns the columns that no member of the span has as its lead.
func TestFree(t *testing.T) {
	for _, x := range samples(300, 8, MaxRows) {
		in := spanOf(x.l, x.n)
		var wanted []int
		for k := range x.n {
			if !slices.Contains(in[1<<k:2<<k], true) {
				wanted = append(wanted, k)
			}
		}
		got, e := Free(x.l, x.n)
		wantRows(t, x, got, e, wanted, api.OK)
	}
	got, e := Free(nil, 3)
	wantRows(t, "no rows", got, e, []int{0, 1, 2}, api.OK)
	got, e = Free([]int{1, 2, 4}, 3)
	wantRows(t, "all", got, e, nil, api.OK)
}

// P2.3: Solve returns the least one of all solutions, or that there is none.
func TestSolve(t *testing.T) {
	none := 0
	for _, x := range samples(240, 7, 8) {
		least := map[int]int{}
		for row := 1<<x.n - 1; row >= 0; row-- {
			least[appliedTo(x.l, row)] = row
		}
		for b := range 1 << len(x.l) {
			got, e := Solve(x.l, x.n, b)
			if wanted, is := least[b]; is {
				want(t, x, got, e, wanted, api.OK)
			} else {
				want(t, x, got, e, 0, api.ErrNone)
				none++
			}
		}
	}
	if none < 100 {
		t.Error("too few without a solution:", none)
	}
}

// P2.3: Solve, with no rows, and with as many as there may be.
func TestSolveEdges(t *testing.T) {
	for _, x := range []struct {
		l            []int
		n, b, wanted int
		e            api.Errno
	}{
		{nil, 1, 0, 0, api.OK},
		{nil, MaxCols, 0, 0, api.OK},
		{nil, 3, 1, 0, api.ErrForm},
		{[]int{0}, 3, 0, 0, api.OK},
		{[]int{0}, 3, 1, 0, api.ErrNone},
		{[]int{1 << 15}, MaxCols, 1, 1 << 15, api.OK},
		{[]int{65535}, MaxCols, 1, 1, api.OK},
		{slices.Repeat([]int{1, 2}, 12), 2, 0x555555, 1, api.OK},
		{slices.Repeat([]int{1, 2}, 12), 2, 0xffffff, 3, api.OK},
		{slices.Repeat([]int{1, 2}, 12), 2, 0xfffffe, 0, api.ErrNone},
		{slices.Repeat([]int{1, 2}, 12), 2, 0x7fffff, 0, api.ErrNone},
	} {
		got, e := Solve(x.l, x.n, x.b)
		want(t, x, got, e, x.wanted, x.e)
	}
}

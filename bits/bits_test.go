package bits

import (
	"fmt"
	"slices"
	"testing"

	"spoondrift/api"
)

// wrongRows are rows that are not right, with their errors.
func wrongRows() []struct {
	l []int
	n int
	e api.Errno
} {
	many := make([]int, MaxRows+1)
	worst := append([]int{-1, 99999, greatest}, many...)
	return []struct {
		l []int
		n int
		e api.Errno
	}{
		{nil, 0, api.ErrRange},
		{[]int{1}, MaxCols + 1, api.ErrRange},
		{[]int{0}, -1, api.ErrRange},
		{nil, greatest, api.ErrRange},
		{nil, smallest, api.ErrRange},
		{worst, 0, api.ErrRange},
		{worst, 64, api.ErrRange},
		{many, 1, api.ErrMany},
		{many, MaxCols, api.ErrMany},
		{worst, 3, api.ErrMany},
		{[]int{8}, 3, api.ErrForm},
		{[]int{2}, 1, api.ErrForm},
		{[]int{1 << MaxCols}, MaxCols, api.ErrForm},
		{[]int{1, 2, -1}, 3, api.ErrForm},
		{[]int{-1, 1, 2}, 3, api.ErrForm},
		{[]int{smallest}, MaxCols, api.ErrForm},
		{[]int{greatest}, MaxCols, api.ErrForm},
		{append(make([]int, MaxRows-1), 4), 2, api.ErrForm},
	}
}

// P2.1: right rows, with the limits and one beyond them, and which error comes first.
func TestCheck(t *testing.T) {
	full := make([]int, MaxRows)
	for i := range full {
		full[i] = 1<<MaxCols - 1
	}
	for _, x := range []rows{{nil, 1}, {nil, MaxCols}, {[]int{}, 7}, {[]int{0, 1}, 1}, {full, MaxCols}, {make([]int, MaxRows), 1}, {[]int{7, 0, 7}, 3}} {
		if e := Check(x.list, x.n); e != api.OK {
			t.Error(x, e)
		}
	}
	for _, x := range wrongRows() {
		if e := Check(x.l, x.n); e != x.e {
			t.Error(x, e)
		}
	}
}

// P2.1: the error of Check comes first, whatever else is wrong, and with an error all other results are zero.
func TestErrorsOfCheckFirst(t *testing.T) {
	for _, x := range wrongRows() {
		for _, other := range []int{0, 1, -1, 1 << MaxCols, smallest, greatest} {
			for _, c := range calls(other, other) {
				if got, e := c.do(x.l, x.n); !isZero(got) || e != x.e {
					t.Error(c.name, x, other, got, e)
				}
			}
		}
	}
}

// P2.1: the errors of the first list come before those of the second one.
func TestFirstListFirst(t *testing.T) {
	many, wrong := make([]int, MaxRows+1), []int{-1}
	for _, x := range []struct {
		a, b []int
		e    api.Errno
	}{{many, wrong, api.ErrMany}, {wrong, many, api.ErrForm}, {nil, many, api.ErrMany}, {wrong, nil, api.ErrForm}} {
		same, e := Same(x.a, x.b, 2)
		want(t, "Same", same, e, false, x.e)
		l, e := Meet(x.a, x.b, 2)
		wantRows(t, "Meet", l, e, nil, x.e)
		l, e = Mul(x.a, 2, x.b, 2)
		wantRows(t, "Mul", l, e, nil, x.e)
	}
	l, e := Mul(wrong, 1, many, 0)
	wantRows(t, "Mul, wrong n behind wrong rows", l, e, nil, api.ErrForm)
	l, e = Mul(many, 17, wrong, 0)
	wantRows(t, "Mul, wrong m", l, e, nil, api.ErrRange)
	l, e = Mul([]int{4}, 3, wrong, 17)
	wantRows(t, "Mul, wrong n", l, e, nil, api.ErrRange)
	l, e = Mul([]int{4}, 3, wrong, 2)
	wantRows(t, "Mul, wrong rows before too few", l, e, nil, api.ErrForm)
}

// The errors behind those of Check, with the limits and one beyond them.
func TestErrorsBehindCheck(t *testing.T) {
	l := []int{1, 3}
	for _, row := range []int{-1, 8, 1 << MaxCols, smallest, greatest} {
		for _, c := range calls(row, row) {
			got, e := c.do(l, 3)
			switch c.name {
			case "Member", "Which", "Apply", "Coset", "Solve":
				if !isZero(got) || e != api.ErrForm {
					t.Error(c.name, row, got, e)
				}
			}
		}
	}
	for _, b := range []int{0, 3, 4} {
		x, e := Solve(l, 3, b)
		if b == 4 {
			want(t, "Solve, one more", x, e, 0, api.ErrForm)
		} else if e != api.OK {
			t.Error("Solve", b, e)
		}
	}
	x, e := Solve(make([]int, MaxRows), 1, 1<<MaxRows)
	want(t, "Solve, not below 2^24", x, e, 0, api.ErrForm)
	x, e = Solve(make([]int, MaxRows), 1, 1<<MaxRows-1)
	want(t, "Solve, below 2^24", x, e, 0, api.ErrNone)
	x, e = Which(l, 3, 4)
	want(t, "Which", x, e, 0, api.ErrNone)
	is, e := Member(l, 3, 7)
	want(t, "Member", is, e, false, api.OK)
}

// R3: nil and an empty list are the same.
func TestNoRows(t *testing.T) {
	for n := range MaxCols + 2 {
		for _, c := range calls(0, 0) {
			a, e := c.do(nil, n)
			b, f := c.do([]int{}, n)
			if fmt.Sprint(a) != fmt.Sprint(b) || e != f {
				t.Error(c.name, n, a, e, b, f)
			}
		}
	}
}

// P0.1: no function panics, and each one ends, with the least and the greatest integers, and long lists.
func TestAnyIntegers(t *testing.T) {
	edges := []int{smallest, smallest + 1, -1 << 32, -1, 0, 1, 2, 15, 16, 17, 24, 63, 64, 1<<16 - 1, 1 << 16, 1<<24 - 1, 1 << 24, 1 << 32, greatest}
	lists := [][]int{nil, edges, {0}, {1}, {1, 1}, {3, 1, 2}, {65535, 32768, 0}, make([]int, MaxRows), make([]int, 1<<20), slices.Repeat([]int{65535, 21845, 43690}, 8)}
	for _, l := range lists {
		for _, n := range edges {
			for _, x := range edges {
				for _, c := range calls(x, x) {
					c.do(l, n)
				}
			}
			for _, other := range lists {
				Same(l, other, n)
				Meet(l, other, n)
				for _, m := range edges {
					Mul(l, m, other, n)
				}
			}
			Check(l, n)
			Identity(n)
			Weight(n)
		}
	}
}

// R4: arguments are as they were, with all that is behind them, and results share nothing with them.
func TestMemory(t *testing.T) {
	for _, x := range append(samples(64, 8, 8), sample{[]int{1, 2, 4}, []int{4, 2, 1}, 3}, sample{[]int{5, 3}, []int{5, 3}, 3}) {
		room := append(slices.Clone(x.l), 77, 78, 79)
		l := room[:len(x.l)]
		product := func(l []int, n int) (any, api.Errno) { y, e := Mul(l, n, x.other, x.n); return y, e }
		second := func(l []int, n int) (any, api.Errno) { y, e := Mul(x.other, len(l), l, n); return y, e }
		for _, c := range append(calls(0, 0), call{"Mul", product}, call{"Mul", second}) {
			first, e := c.do(l, x.n)
			before := fmt.Sprint(first, e)
			if result, is := first.([]int); is {
				for i := range result {
					result[i] = -5
				}
			}
			if !slices.Equal(room, append(slices.Clone(x.l), 77, 78, 79)) {
				t.Fatal(c.name, "changed its argument:", x.l, room)
			}
			again, e := c.do(l, x.n)
			if fmt.Sprint(again, e) != before {
				t.Error(c.name, "kept something:", before, again)
			}
			changed := slices.Clone(x.l)
			last, e := c.do(changed, x.n)
			clear(changed)
			if fmt.Sprint(last, e) != before {
				t.Error(c.name, "shares its argument:", before, last)
			}
		}
	}
}

// The five examples of the chapter.
func TestExamples(t *testing.T) {
	l := []int{3, 5, 6}
	x, e := Rank(l, 4)
	want(t, "Rank", x, e, 2, api.OK)
	a, e := Reduce(l, 4)
	wantRows(t, "Reduce", a, e, []int{5, 3}, api.OK)
	x, e = Which(l, 4, 6)
	want(t, "Which", x, e, 3, api.OK)
	x, e = Which(l, 4, 0)
	want(t, "Which", x, e, 0, api.OK)
	a, e = Free(l, 4)
	wantRows(t, "Free", a, e, []int{0, 3}, api.OK)
	a, e = Null(l, 4)
	wantRows(t, "Null", a, e, []int{8, 7}, api.OK)
	a, e = Weights(l, 4)
	wantRows(t, "Weights", a, e, []int{1, 0, 3, 0, 0}, api.OK)
	a, e = Weights([]int{8, 7}, 4)
	wantRows(t, "Weights", a, e, []int{1, 1, 0, 1, 1}, api.OK)
	x, e = Solve([]int{3, 6}, 3, 1)
	want(t, "Solve", x, e, 1, api.OK)
	x, e = Solve([]int{3, 6}, 3, 3)
	want(t, "Solve", x, e, 2, api.OK)
	x, e = Solve([]int{3, 3}, 3, 1)
	want(t, "Solve", x, e, 0, api.ErrNone)
	a, e = Invert([]int{3, 2, 4}, 3)
	wantRows(t, "Invert", a, e, []int{3, 2, 4}, api.OK)
	a, e = Mul([]int{1, 3}, 2, []int{5, 6}, 3)
	wantRows(t, "Mul", a, e, []int{5, 3}, api.OK)
	x, e = Apply([]int{3, 6}, 3, 2)
	want(t, "Apply", x, e, 3, api.OK)
	a, e = Transpose([]int{3, 6}, 3)
	wantRows(t, "Transpose", a, e, []int{1, 3, 2}, api.OK)
	x, e = Coset(l, 3, 7)
	want(t, "Coset", x, e, 1, api.OK)
	a, e = Meet([]int{3, 4}, []int{5, 2}, 3)
	wantRows(t, "Meet", a, e, []int{7}, api.OK)
}

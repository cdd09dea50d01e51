package bits

import (
	"slices"
	"testing"

	"spoondrift/api"
)

// P2.4: each row of a product is a sum of rows of the second matrix.
func TestMul(t *testing.T) {
	for _, x := range samples(400, MaxCols, MaxCols) {
		if len(x.l) == 0 {
			continue
		}
		m := len(x.l)
		var a, wanted []int
		for i := range m + 3 {
			row, sum := (7919*i+x.n)%(1<<m), 0
			for k, other := range x.l {
				if row/(1<<k)%2 == 1 {
					sum ^= other
				}
			}
			a, wanted = append(a, row), append(wanted, sum)
		}
		got, e := Mul(a, m, x.l, x.n)
		wantRows(t, x, got, e, wanted, api.OK)
		if m < MaxCols {
			got, e = Mul(a, m+1, x.l, x.n)
			wantRows(t, x, got, e, nil, api.ErrClash)
		}
		got, e = Mul(nil, m, x.l, x.n)
		wantRows(t, x, got, e, nil, api.OK)
	}
	got, e := Mul(nil, 1, nil, 1)
	wantRows(t, "too few rows", got, e, nil, api.ErrClash)
	got, e = Mul([]int{1}, MaxCols, make([]int, MaxRows), 1)
	wantRows(t, "too many rows", got, e, nil, api.ErrClash)
	got, e = Mul(slices.Repeat([]int{2}, MaxRows), 2, []int{1, 4}, 3)
	wantRows(t, "many rows", got, e, slices.Repeat([]int{4}, MaxRows), api.OK)
}

// P2.4: the bits of Apply are what rows have in common with x.
func TestApply(t *testing.T) {
	for _, x := range samples(200, 8, MaxRows) {
		for row := range 1 << x.n {
			got, e := Apply(x.l, x.n, row)
			want(t, x, got, e, appliedTo(x.l, row), api.OK)
		}
	}
	got, e := Apply(nil, 3, 7)
	want(t, "no rows", got, e, 0, api.OK)
	got, e = Apply(slices.Repeat([]int{32768}, MaxRows), MaxCols, 65535)
	want(t, "many rows", got, e, 1<<MaxRows-1, api.OK)
}

// P2.4: rows for columns.
func TestTranspose(t *testing.T) {
	for _, x := range samples(300, MaxCols, MaxCols) {
		got, e := Transpose(x.l, x.n)
		if len(x.l) == 0 {
			wantRows(t, x, got, e, nil, api.ErrClash)
			continue
		}
		wanted := make([]int, x.n)
		for i, row := range x.l {
			for k := range x.n {
				wanted[k] += row / (1 << k) % 2 * (1 << i)
			}
		}
		wantRows(t, x, got, e, wanted, api.OK)
	}
	got, e := Transpose(slices.Repeat([]int{1}, MaxCols), 1)
	wantRows(t, "most rows", got, e, []int{65535}, api.OK)
	got, e = Transpose(slices.Repeat([]int{1}, MaxCols+1), 1)
	wantRows(t, "too many rows", got, e, nil, api.ErrClash)
	got, e = Transpose(make([]int, MaxRows), 1)
	wantRows(t, "far too many rows", got, e, nil, api.ErrClash)
}

// P2.4: all matrices of up to three rows: the inverse is the only matrix with the identity as product.
func TestInvertByAll(t *testing.T) {
	for n, count := range []int{0, 1, 6, 168} {
		if n == 0 {
			continue
		}
		identity, _ := Identity(n)
		var all [][]int
		for code := range 1 << (n * n) {
			var l []int
			for i := range n {
				l = append(l, code/(1<<(n*i))%(1<<n))
			}
			all = append(all, l)
		}
		inverted := 0
		for _, l := range all {
			wanted, f := []int(nil), api.ErrNone
			for _, other := range all {
				if product, _ := Mul(l, n, other, n); slices.Equal(product, identity) {
					wanted, f = other, api.OK
					inverted++
				}
			}
			got, e := Invert(l, n)
			wantRows(t, l, got, e, wanted, f)
		}
		if inverted != count {
			t.Error(n, inverted)
		}
	}
}

// P2.4: Invert, with wrong numbers of rows, and with the most rows.
func TestInvertEdges(t *testing.T) {
	stairs, steps := make([]int, MaxCols), make([]int, MaxCols)
	for k := range MaxCols {
		stairs[k] = 2<<k - 1
		steps[k] = 3 << k >> 1
	}
	for _, x := range []struct {
		l      []int
		n      int
		wanted []int
		e      api.Errno
	}{
		{nil, 1, nil, api.ErrClash},
		{[]int{1}, 2, nil, api.ErrClash},
		{[]int{1, 2, 3}, 2, nil, api.ErrClash},
		{[]int{0, 0, 0}, 2, nil, api.ErrClash},
		{[]int{0}, 1, nil, api.ErrNone},
		{[]int{1}, 1, []int{1}, api.OK},
		{[]int{1, 1}, 2, nil, api.ErrNone},
		{[]int{2, 1}, 2, []int{2, 1}, api.OK},
		{[]int{2, 4, 1}, 3, []int{4, 1, 2}, api.OK},
		{stairs, MaxCols, steps, api.OK},
		{make([]int, MaxCols), MaxCols, nil, api.ErrNone},
	} {
		got, e := Invert(x.l, x.n)
		wantRows(t, x, got, e, x.wanted, x.e)
	}
}

// P2.4: the identity, with the limits and one beyond them.
func TestIdentity(t *testing.T) {
	for n := 1; n <= MaxCols; n++ {
		got, e := Identity(n)
		if len(got) != n || e != api.OK {
			t.Error(n, got, e)
		}
		wanted := 1
		for i, row := range got {
			if row != wanted {
				t.Error(n, i, row)
			}
			wanted *= 2
		}
	}
	for _, n := range []int{0, MaxCols + 1, -1, smallest, greatest} {
		got, e := Identity(n)
		wantRows(t, n, got, e, nil, api.ErrRange)
	}
}

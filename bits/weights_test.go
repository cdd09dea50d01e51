package bits

import (
	"testing"

	"spoondrift/api"
)

// P2.5: the weight of a number, of all sizes.
func TestWeight(t *testing.T) {
	for x := range 1 << 12 {
		got, e := Weight(x)
		want(t, x, got, e, ones(x), api.OK)
	}
	for _, x := range []struct{ x, wanted int }{{1 << 40, 1}, {greatest, 63}, {greatest - 1, 62}, {1 << 62, 1}, {0xffffffff, 32}} {
		got, e := Weight(x.x)
		want(t, x, got, e, x.wanted, api.OK)
	}
	for _, x := range []int{-1, -2, smallest, smallest + 1} {
		got, e := Weight(x)
		want(t, x, got, e, 0, api.ErrRange)
	}
}

// P2.5: how many members have each weight; a member counts once, however many rows give it.
func TestWeights(t *testing.T) {
	for _, x := range samples(400, 10, MaxRows) {
		wanted := make([]int, x.n+1)
		for row, is := range spanOf(x.l, x.n) {
			if is {
				wanted[ones(row)]++
			}
		}
		got, e := Weights(x.l, x.n)
		wantRows(t, x, got, e, wanted, api.OK)
	}
	got, e := Weights(nil, 3)
	wantRows(t, "no rows", got, e, []int{1, 0, 0, 0}, api.OK)
	all, _ := Identity(MaxCols)
	got, e = Weights(all, MaxCols)
	wanted := []int{1}
	for k := range MaxCols {
		wanted = append(wanted, wanted[k]*(MaxCols-k)/(k+1))
	}
	wantRows(t, "all rows", got, e, wanted, api.OK)
}

// P2.5: the lightest member of a coset, of several the least one.
func TestCoset(t *testing.T) {
	for _, x := range samples(250, 8, 6) {
		in := spanOf(x.l, x.n)
		for row := range in {
			best := -1
			for other := range in {
				if in[row^other] && (best < 0 || ones(other) < ones(best)) {
					best = other
				}
			}
			got, e := Coset(x.l, x.n, row)
			want(t, x, got, e, best, api.OK)
		}
	}
	for _, x := range []struct {
		l              []int
		n, row, wanted int
	}{
		{nil, 3, 7, 7},
		{[]int{0}, 3, 5, 5},
		{[]int{6}, 3, 4, 2},
		{[]int{6}, 3, 2, 2},
		{[]int{12, 3}, 4, 10, 5},
		{[]int{65535}, MaxCols, 65534, 1},
		{[]int{1 << 15, 1}, MaxCols, 65535, 32766},
	} {
		got, e := Coset(x.l, x.n, x.row)
		want(t, x, got, e, x.wanted, api.OK)
	}
	all, _ := Identity(MaxCols)
	got, e := Coset(all, MaxCols, 65535)
	want(t, "all rows", got, e, 0, api.OK)
}

// P2.5: a loop over members may end before they do.
func TestMembersEnd(t *testing.T) {
	count := 0
	for range systemOf([]int{1, 2, 4}, 3).members() {
		if count++; count == 3 {
			break
		}
	}
	if count != 3 {
		t.Error(count)
	}
}

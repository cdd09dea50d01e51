package ring

import (
	"fmt"
	"slices"
	"testing"

	"spoondrift/api"
)

// P1.2: sums, differences and products are those of the oracle, and ErrLarge just if those are too large.
func TestAgainstOracle(t *testing.T) {
	l := samples(130)
	errors := map[string]int{}
	for _, x := range l {
		for _, y := range l {
			a, b := exactOf(x), exactOf(y)
			for _, o := range []struct {
				name string
				do   func(x, y api.Num) (api.Num, api.Errno)
				want exact
			}{{"Add", Add, a.plus(b)}, {"Sub", Sub, a.plus(b.minus())}, {"Mul", Mul, a.times(b)}} {
				want, f := o.want.least()
				got, e := o.do(x, y)
				wantNum(t, fmt.Sprint(o.name, x, y), got, e, want, f)
				if e != api.OK {
					errors[o.name]++
				}
			}
		}
	}
	for name, n := range errors {
		if n == 0 || n == len(l)*len(l) {
			t.Error(name, "had errors:", n)
		}
	}
}

// P1.2: values that are only too large, or not too large, in least form.
func TestTooLarge(t *testing.T) {
	const most, root = api.MaxCoef, api.MaxRoot
	for _, x := range []struct {
		name string
		do   func(x, y api.Num) (api.Num, api.Errno)
		x, y api.Num
		want api.Num
		e    api.Errno
	}{
		{"most", Add, num(most-1, 0, 0, 0, 0), num(1, 0, 0, 0, 0), num(most, 0, 0, 0, 0), api.OK},
		{"above most", Add, num(most, 0, 0, 0, 0), num(1, 0, 0, 0, 0), api.Num{}, api.ErrLarge},
		{"below", Sub, num(0, 0, 0, -most, 0), num(0, 0, 0, 1, 0), api.Num{}, api.ErrLarge},
		{"least", Sub, num(0, 0, 0, -most+1, 0), num(0, 0, 0, 1, 0), num(0, 0, 0, -most, 0), api.OK},
		{"halves", Add, num(most, 0, 0, 0, 2), num(most, 0, 0, 0, 2), num(most, 0, 0, 0, 0), api.OK},
		{"deep halves", Add, num(most, 1, 0, 0, root), num(most, 1, 0, 0, root), num(most, 1, 0, 0, root-2), api.OK},
		{"wholes and the deepest", Add, num(1, 0, 0, 0, 0), num(1, 0, 0, 0, root), api.Num{}, api.ErrLarge},
		{"a hair below", Sub, num(1, 0, 0, 0, 0), num(1, 0, 0, 0, root), num(most-1, 0, 0, 0, root), api.OK},
		{"corners", Add, num(most, most, most, most, 0), num(most, most, -most, -most, root), api.Num{}, api.ErrLarge},
		{"product of corners", Mul, num(most, most, most, most, root), num(most, most, -most, -most, root), num(2, 4, 2, 0, 0), api.OK},
		{"product of most", Mul, num(1<<15, 0, 0, 0, 0), num(1<<15, 1, 0, 0, 0), num(most, 1<<15, 0, 0, 0), api.OK},
		{"product too large by one", Mul, num(1<<15, 1, 0, 0, 0), num(1<<15, 0, 0, -1, 0), api.Num{}, api.ErrLarge},
		{"deepest product", Mul, num(1, 0, 0, 0, 30), num(1, 0, 0, 0, 30), num(1, 0, 0, 0, 60), api.OK},
		{"too deep", Mul, num(1, 0, 0, 0, 30), num(1, 0, 0, 0, 31), api.Num{}, api.ErrLarge},
		{"not too deep", Mul, num(1, 1, 1, 1, 30), num(1, 0, 1, 0, 31), num(0, 0, 1, 1, 59), api.OK},
		{"nothing is not large", Mul, num(0, 0, 0, 0, root), num(most, 0, 0, 0, root), api.Num{}, api.OK},
		{"nothing is left", Sub, num(most, most, most, most, 7), num(most, most, most, most, 7), api.Num{}, api.OK},
	} {
		got, e := x.do(x.x, x.y)
		wantNum(t, x.name, got, e, x.want, x.e)
	}
}

// P1.2: what is done with one number.
func TestOneNumber(t *testing.T) {
	const most = api.MaxCoef
	for _, x := range []struct {
		name    string
		do      func(api.Num) (api.Num, api.Errno)
		x, want api.Num
		e       api.Errno
	}{
		{"Neg", Neg, num(1, -2, 3, -5, 1), num(-1, 2, -3, 5, 1), api.OK},
		{"Neg in least form", Neg, num(2, 0, 0, -4, 2), num(-1, 0, 0, 2, 0), api.OK},
		{"Neg of most", Neg, num(most, -most, 1, 0, 60), num(-most, most, -1, 0, 60), api.OK},
		{"Neg of 0", Neg, num(0, 0, 0, 0, 9), api.Num{}, api.OK},
		{"Conj", Conj, num(1, 2, 3, 4, 0), num(1, -4, -3, -2, 0), api.OK},
		{"Conj over r", Conj, num(1, 2, 4, 8, 3), num(1, -8, -4, -2, 3), api.OK},
		{"Conj in least form", Conj, num(0, 2, 0, 0, 2), num(0, 0, 0, -1, 0), api.OK},
		{"Dot", Dot, num(1, 2, 3, 4, 0), num(1, -2, 3, -4, 0), api.OK},
		{"Dot over r", Dot, num(1, 2, 4, 8, 3), num(-1, 2, -4, 8, 3), api.OK},
		{"Dot over 2", Dot, num(1, 2, 4, 8, 2), num(1, -2, 4, -8, 2), api.OK},
		{"Dot in least form", Dot, num(1, 0, 1, 0, 1), num(0, -1, 0, 0, 0), api.OK},
		{"Norm", Norm, num(1, 2, 3, 4, 0), num(30, 16, 0, -16, 0), api.OK},
		{"Norm over r", Norm, num(1, 1, 0, 0, 1), num(1, 1, 0, -1, 1), api.OK},
		{"Norm of most", Norm, num(1<<15, 0, 0, 0, 0), num(most, 0, 0, 0, 0), api.OK},
		{"Norm of more", Norm, num(1<<15+1, 0, 0, 0, 0), api.Num{}, api.ErrLarge},
		{"Norm, deepest", Norm, num(1, 0, 0, 0, 30), num(1, 0, 0, 0, 60), api.OK},
		{"Norm, too deep", Norm, num(1, 0, 0, 0, 31), api.Num{}, api.ErrLarge},
		{"Norm of 0", Norm, num(0, 0, 0, 0, 60), api.Num{}, api.OK},
	} {
		got, e := x.do(x.x)
		wantNum(t, x.name, got, e, x.want, x.e)
	}
}

// P1.2: the powers of w.
func TestOmega(t *testing.T) {
	all := []api.Num{num(1, 0, 0, 0, 0), num(0, 1, 0, 0, 0), num(0, 0, 1, 0, 0), num(0, 0, 0, 1, 0), num(-1, 0, 0, 0, 0), num(0, -1, 0, 0, 0), num(0, 0, -1, 0, 0), num(0, 0, 0, -1, 0)}
	for n := -40; n < 40; n++ {
		if got := Omega(n); got != all[(n+40)%8] {
			t.Error(n, got)
		}
	}
	if Omega(greatest) != all[7] || Omega(smallest) != all[0] || Omega(smallest+3) != all[3] {
		t.Error(Omega(greatest), Omega(smallest), Omega(smallest+3))
	}
}

// P1.2: 1 / r^k.
func TestRoot(t *testing.T) {
	for k := 0; k <= api.MaxRoot; k++ {
		got, e := Root(k)
		wantNum(t, fmt.Sprint("Root ", k), got, e, num(1, 0, 0, 0, k), api.OK)
	}
	for _, k := range []int{-1, api.MaxRoot + 1, smallest, greatest} {
		got, e := Root(k)
		wantNum(t, fmt.Sprint("Root ", k), got, e, api.Num{}, api.ErrRange)
	}
}

// P1.2: powers, of which each one before the last one must not be too large either.
func TestPower(t *testing.T) {
	for _, x := range []struct {
		x    api.Num
		n    int
		want api.Num
		e    api.Errno
	}{
		{num(5, 6, 7, 8, 3), 0, num(1, 0, 0, 0, 0), api.OK},
		{num(0, 0, 0, 0, 3), 0, num(1, 0, 0, 0, 0), api.OK},
		{num(0, 0, 0, 0, 3), 5, api.Num{}, api.OK},
		{num(2, 0, 0, 0, 2), 1, num(1, 0, 0, 0, 0), api.OK},
		{num(1, 1, 0, 0, 0), 2, num(1, 2, 1, 0, 0), api.OK},
		{num(1, 1, 0, 0, 0), 3, num(1, 3, 3, 1, 0), api.OK},
		{num(0, 1, 0, -1, 0), 60, num(1<<30, 0, 0, 0, 0), api.OK},
		{num(0, 1, 0, -1, 0), 61, num(0, 1<<30, 0, -1<<30, 0), api.OK},
		{num(0, 1, 0, -1, 0), 62, api.Num{}, api.ErrLarge},
		{num(1, 0, 0, 0, 1), 60, num(1, 0, 0, 0, 60), api.OK},
		{num(1, 0, 0, 0, 1), 61, api.Num{}, api.ErrLarge},
		{num(1, 0, 1, 0, 1), MaxPower, num(1, 0, 0, 0, 0), api.OK},
		{num(1, 0, 1, 0, 1), MaxPower + 1, api.Num{}, api.ErrRange},
		{num(1, 0, 1, 0, 1), -1, api.Num{}, api.ErrRange},
		{num(1, 0, 1, 0, 1), smallest, api.Num{}, api.ErrRange},
		{num(1, 0, 1, 0, 1), greatest, api.Num{}, api.ErrRange},
	} {
		got, e := Power(x.x, x.n)
		wantNum(t, fmt.Sprint("Power", x.x, x.n), got, e, x.want, x.e)
	}
	for _, x := range samples(100) {
		whole := exactOf(num(1, 0, 0, 0, 0))
		want, f := whole.least()
		for n := range 8 {
			got, e := Power(x, n)
			wantNum(t, fmt.Sprint("Power", x, n), got, e, want, f)
			whole = whole.times(exactOf(x))
			if f == api.OK {
				want, f = whole.least()
			}
		}
	}
}

// P1.2: sums of lists, of which each one before the last one must not be too large either.
func TestSum(t *testing.T) {
	const most = api.MaxCoef
	for _, x := range []struct {
		name string
		l    []api.Num
		want api.Num
		e    api.Errno
	}{
		{"nil", nil, api.Num{}, api.OK},
		{"empty", []api.Num{}, api.Num{}, api.OK},
		{"one", []api.Num{num(2, 0, 0, 0, 2)}, num(1, 0, 0, 0, 0), api.OK},
		{"halves", []api.Num{num(1, 0, 0, 0, 2), num(0, 1, 0, 0, 0), num(1, 0, 0, 0, 2)}, num(1, 1, 0, 0, 0), api.OK},
		{"too large on the way", []api.Num{num(most, 0, 0, 0, 0), num(1, 0, 0, 0, 0), num(-1, 0, 0, 0, 0)}, api.Num{}, api.ErrLarge},
		{"not in this order", []api.Num{num(most, 0, 0, 0, 0), num(-1, 0, 0, 0, 0), num(1, 0, 0, 0, 0)}, num(most, 0, 0, 0, 0), api.OK},
		{"nor from the right", []api.Num{num(1, 0, 0, 0, 0), num(-1, 0, 0, 0, 0), num(most, 0, 0, 0, 0), num(-most, 0, 0, 0, 0)}, api.Num{}, api.OK},
		{"wrong behind too large", []api.Num{num(most, 0, 0, 0, 0), num(most, 0, 0, 0, 0), num(1, 0, 0, 0, 61)}, api.Num{}, api.ErrRange},
		{"wrong ones, one after the other", []api.Num{num(1, 0, 0, 0, 0), num(most+1, 0, 0, 0, 0), num(1, 0, 0, 0, 61)}, api.Num{}, api.ErrLarge},
		{"the other way round", []api.Num{num(1, 0, 0, 0, -1), num(most+1, 0, 0, 0, 0)}, api.Num{}, api.ErrRange},
	} {
		before := slices.Clone(x.l)
		got, e := Sum(x.l)
		wantNum(t, x.name, got, e, x.want, x.e)
		if !slices.Equal(before, x.l) {
			t.Error(x.name, "changed its list:", x.l)
		}
	}
	l := samples(300)
	for i := 0; i+3 <= len(l); i++ {
		whole := exactOf(api.Num{})
		want, f := whole.least()
		for _, x := range l[i : i+3] {
			whole = whole.plus(exactOf(x))
			if f == api.OK {
				want, f = whole.least()
			}
		}
		got, e := Sum(l[i : i+3])
		wantNum(t, fmt.Sprint("Sum", l[i:i+3]), got, e, want, f)
	}
}

package ring

import (
	"fmt"
	"testing"

	"spoondrift/api"
)

// P1.3: quotients, and the limits of what is divided.
func TestDivide(t *testing.T) {
	const part = MaxPart
	for _, x := range []struct {
		name       string
		x, y, want api.Num
		e          api.Errno
	}{
		{"by 1", num(1, 2, 3, 5, 7), num(1, 0, 0, 0, 0), num(1, 2, 3, 5, 7), api.OK},
		{"by -1", num(1, 2, 3, 5, 7), num(-1, 0, 0, 0, 0), num(-1, -2, -3, -5, 7), api.OK},
		{"by w", num(1, 2, 3, 5, 7), num(0, 1, 0, 0, 0), num(2, 3, 5, -1, 7), api.OK},
		{"by r", num(1, 0, 0, 0, 0), num(0, 1, 0, -1, 0), num(1, 0, 0, 0, 1), api.OK},
		{"by 1/r", num(1, 0, 0, 0, 0), num(1, 0, 0, 0, 1), num(0, 1, 0, -1, 0), api.OK},
		{"by 3", num(9, -3, 0, 6, 1), num(3, 0, 0, 0, 0), num(3, -1, 0, 2, 1), api.OK},
		{"by 3, one part not", num(9, -3, 0, 7, 1), num(3, 0, 0, 0, 0), api.Num{}, api.ErrNone},
		{"by a part of 7", num(7, 0, 0, 0, 0), num(3, 1, 0, -1, 0), num(3, -1, 0, 1, 0), api.OK},
		{"by the other's part", num(3, 1, 0, -1, 0), num(3, -1, 0, 1, 0), api.Num{}, api.ErrNone},
		{"by a unit", num(1, 0, 0, 0, 0), num(1, 1, 0, -1, 0), num(-1, 1, 0, -1, 0), api.OK},
		{"0", api.Num{}, num(1, 2, 3, 4, 5), api.Num{}, api.OK},
		{"0 over r", num(0, 0, 0, 0, 60), num(1, 0, 0, 0, 60), api.Num{}, api.OK},
		{"by 0", num(1, 0, 0, 0, 0), num(0, 0, 0, 0, 3), api.Num{}, api.ErrNone},
		{"0 by 0", api.Num{}, api.Num{}, api.Num{}, api.ErrNone},
		{"most parts", num(part, -part, part, 1, 3), num(1, 0, 0, 0, 0), num(part, -part, part, 1, 3), api.OK},
		{"x beyond", num(part+1, 0, 0, 0, 0), num(1, 0, 0, 0, 0), api.Num{}, api.ErrLarge},
		{"x below", num(0, 0, 0, -part-1, 0), num(1, 0, 0, 0, 0), api.Num{}, api.ErrLarge},
		{"y beyond", num(1, 0, 0, 0, 0), num(0, 0, part+1, 0, 0), api.Num{}, api.ErrLarge},
		{"y below", num(1, 0, 0, 0, 0), num(0, -part-1, 0, 0, 0), api.Num{}, api.ErrLarge},
		{"x beyond before y is 0", num(part+1, 0, 0, 0, 0), api.Num{}, api.Num{}, api.ErrLarge},
		{"beyond before there is none", num(part+1, 0, 0, 0, 0), num(3, 0, 0, 0, 0), api.Num{}, api.ErrLarge},
		{"x not beyond in least form", num(2*part, 0, 0, 0, 2), num(1, 0, 0, 0, 0), num(part, 0, 0, 0, 0), api.OK},
		{"y not beyond in least form", num(part, 0, 0, 0, 0), num(2*part, 0, 0, 0, 2), num(1, 0, 0, 0, 0), api.OK},
		{"x beyond in least form", num(2*part+2, 0, 0, 0, 2), num(1, 0, 0, 0, 0), api.Num{}, api.ErrLarge},
		{"too deep", num(1, 0, 0, 0, 60), num(0, 1, 0, -1, 0), api.Num{}, api.ErrLarge},
		{"deepest", num(1, 0, 0, 0, 59), num(0, 1, 0, -1, 0), num(1, 0, 0, 0, 60), api.OK},
		{"too deep, but there is none", num(1, 0, 0, 0, 60), num(6, 0, 0, 0, 0), api.Num{}, api.ErrNone},
		{"most", num(1, 0, 0, 0, 0), num(1, 0, 0, 0, 60), num(api.MaxCoef, 0, 0, 0, 0), api.OK},
		{"most and r", num(0, 1, 0, -1, 0), num(1, 0, 0, 0, 60), num(0, api.MaxCoef, 0, -api.MaxCoef, 0), api.OK},
		{"too large", num(2, 0, 0, 0, 0), num(1, 0, 0, 0, 60), api.Num{}, api.ErrLarge},
		{"too large by parts", num(3, 0, 0, 0, 0), num(1, 0, 0, 0, 60), api.Num{}, api.ErrLarge},
		{"large, and less over r", num(part, 0, 0, 0, 36), num(1, 0, 0, 0, 60), num(1<<24, 0, 0, 0, 0), api.OK},
	} {
		got, e := Divide(x.x, x.y)
		wantNum(t, x.name, got, e, x.want, x.e)
	}
}

// P1.3: quotients are those that four equations in fractions have.
func TestDivideAgainstOracle(t *testing.T) {
	var l []api.Num
	for _, x := range samples(150) {
		if x, e := Least(x); e == api.OK && coefsOf(x).within(MaxPart) && x != (api.Num{}) {
			l = append(l, x)
		}
	}
	products := 0
	for i, x := range l {
		for _, y := range l {
			want, f := exactOf(x).over(exactOf(y))
			got, e := Divide(x, y)
			wantNum(t, fmt.Sprint("Divide", x, y), got, e, want, f)
			product, e := Mul(x, y)
			if e != api.OK || !coefsOf(product).within(MaxPart) {
				continue
			}
			products++
			got, e = Divide(product, y)
			wantNum(t, fmt.Sprint("Divide the product of", l[i], y), got, e, x, api.OK)
		}
	}
	if products < 100 {
		t.Error("too few products:", products)
	}
}

// P1.3: which numbers are real.
func TestReal(t *testing.T) {
	for x, want := range map[api.Num]bool{
		num(0, 0, 0, 0, 0):      true,
		num(0, 0, 0, 0, 5):      true,
		num(-3, 0, 0, 0, 1):     true,
		num(0, 1, 0, -1, 0):     true,
		num(3, -7, 0, 7, 9):     true,
		num(2, 2, 0, -2, 2):     true,
		num(0, 1, 0, 0, 0):      false,
		num(0, 0, 1, 0, 0):      false,
		num(0, 1, 0, 1, 0):      false,
		num(1, 1, 1, -1, 0):     false,
		num(1, 0, 0, 1, 3):      false,
		num(1, 0, 0, 0, 60):     true,
		num(0, 0, 1<<30, 0, 60): false,
	} {
		if is, e := Real(x); is != want || e != api.OK {
			t.Error(x, is, e)
		}
	}
	for _, x := range samples(300) {
		conj, _ := exactOf(num(x.A, -x.D, -x.C, -x.B, x.K)).least()
		self, _ := exactOf(x).least()
		if is, e := Real(x); is != (conj == self) || e != api.OK {
			t.Error(x, is, e)
		}
	}
}

// P1.3: which real numbers are less, with the errors in their order.
func TestLess(t *testing.T) {
	const most = api.MaxCoef
	one, w, i := num(1, 0, 0, 0, 0), num(0, 1, 0, 0, 0), num(0, 0, 1, 0, 0)
	for _, x := range []struct {
		name string
		x, y api.Num
		want bool
		e    api.Errno
	}{
		{"the same", one, num(2, 0, 0, 0, 2), false, api.OK},
		{"1 and r", one, num(0, 1, 0, -1, 0), true, api.OK},
		{"r and 1", num(0, 1, 0, -1, 0), one, false, api.OK},
		{"r and 2", num(0, 1, 0, -1, 0), num(2, 0, 0, 0, 0), true, api.OK},
		{"-r and -1", num(0, -1, 0, 1, 0), num(-1, 0, 0, 0, 0), true, api.OK},
		{"1/r and 1", num(1, 0, 0, 0, 1), one, true, api.OK},
		{"1/2 and 1/r", num(1, 0, 0, 0, 2), num(1, 0, 0, 0, 1), true, api.OK},
		{"17 - 12 r and 0", num(17, -12, 0, 12, 0), api.Num{}, false, api.OK},
		{"41 - 29 r and 0", num(41, -29, 0, 29, 0), api.Num{}, true, api.OK},
		{"2^29 and a bit less", num(most/2, 0, 0, 0, 0), num(0, 379625062, 0, -379625062, 0), false, api.OK},
		{"a bit less and 2^29", num(0, 379625062, 0, -379625062, 0), num(most/2, 0, 0, 0, 0), true, api.OK},
		{"2^29 and a bit more", num(most/2, 0, 0, 0, 0), num(0, 379625063, 0, -379625063, 0), true, api.OK},
		{"not real", w, one, false, api.ErrClash},
		{"not real either", one, i, false, api.ErrClash},
		{"not real before too large", num(most, 1, 0, 0, 0), num(-most, 0, 0, 0, 0), false, api.ErrClash},
		{"the same, not real", w, w, false, api.ErrClash},
		{"too large", num(most, 0, 0, 0, 0), num(-1, 0, 0, 0, 0), false, api.ErrLarge},
		{"too large below", num(-most, 0, 0, 0, 0), num(1, 0, 0, 0, 0), false, api.ErrLarge},
		{"as large as can be", num(-most, 0, 0, 0, 0), api.Num{}, true, api.OK},
		{"wrong before not real", w, num(0, 0, 0, 0, 61), false, api.ErrRange},
	} {
		if is, e := Less(x.x, x.y); is != x.want || e != x.e {
			t.Error(x.name, is, e)
		}
	}
	l := realSamples(120)
	for _, x := range l {
		for _, y := range l {
			difference := exactOf(x).plus(exactOf(y).minus())
			_, f := difference.least()
			want := f == api.OK && difference.sign() < 0
			if is, e := Less(x, y); is != want || e != f {
				t.Error(x, y, is, e, want, f)
			}
		}
	}
}

// P1.3: by which power of w two numbers differ.
func TestPhase(t *testing.T) {
	for _, x := range []struct {
		x, y api.Num
		want int
		e    api.Errno
	}{
		{api.Num{}, api.Num{}, 0, api.OK},
		{num(0, 0, 0, 0, 4), num(0, 0, 0, 0, 9), 0, api.OK},
		{api.Num{}, num(1, 0, 0, 0, 0), 0, api.ErrNone},
		{num(1, 0, 0, 0, 0), api.Num{}, 0, api.ErrNone},
		{num(1, 0, 1, 0, 1), num(2, 0, 0, 0, 2), 1, api.OK},
		{num(1, 0, 0, 0, 1), num(1, 0, 0, 0, 0), 0, api.ErrNone},
		{num(1, 0, 0, 0, 1), num(1, 0, 0, 0, 3), 0, api.ErrNone},
		{num(-1, 0, 0, 0, 7), num(1, 0, 0, 0, 7), 4, api.OK},
		{num(3, 4, 0, 0, 0), num(4, 3, 0, 0, 0), 0, api.ErrNone},
	} {
		if n, e := Phase(x.x, x.y); n != x.want || e != x.e {
			t.Error(x, n, e)
		}
	}
	for _, y := range samples(200) {
		for n := range 8 {
			x, _ := Mul(Omega(n), y)
			want := n
			if x == (api.Num{}) {
				want = 0
			}
			if got, e := Phase(x, y); got != want || e != api.OK {
				t.Error(x, y, got, e)
			}
		}
	}
}

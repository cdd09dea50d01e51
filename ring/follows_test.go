package ring

import (
	"fmt"
	"math/rand"
	"testing"

	"spoondrift/api"
)

// smallSamples are numbers of which sums and products of a few are not too large.
func smallSamples(count int) []api.Num {
	r := rand.New(rand.NewSource(11))
	l := make([]api.Num, count)
	for i := range l {
		part := func() int { return r.Intn(41) - 20 }
		l[i] = num(part(), part(), part(), part(), r.Intn(8))
	}
	return append(l, api.Num{}, num(1, 0, 0, 0, 0), num(0, 1, 0, -1, 0), num(1, 1, 0, 0, 20), num(1<<29, 0, 0, 1, 0))
}

// right returns a calculation's result; results that are too large are counted, and asked nothing.
type right struct {
	t     *testing.T
	large int
}

// same fails the test if two ways give different numbers, and neither is too large.
func (r *right) same(what string, x []api.Num, a, b func() (api.Num, api.Errno)) {
	r.t.Helper()
	got, e := a()
	want, f := b()
	if e == api.ErrLarge || f == api.ErrLarge {
		r.large++
		return
	}
	wantNum(r.t, fmt.Sprint(what, x), got, e, want, f)
}

// both is a calculation with two results.
func both(do func(x, y api.Num) (api.Num, api.Errno), f, g func() (api.Num, api.Errno)) (api.Num, api.Errno) {
	x, e := f()
	if e != api.OK {
		return x, e
	}
	y, e := g()
	if e != api.OK {
		return y, e
	}
	return do(x, y)
}

// of is a calculation that waits.
func of(do func(x, y api.Num) (api.Num, api.Errno), x, y api.Num) func() (api.Num, api.Errno) {
	return func() (api.Num, api.Errno) { return do(x, y) }
}

// is a number that waits.
func is(x api.Num) func() (api.Num, api.Errno) {
	return func() (api.Num, api.Errno) { return Least(x) }
}

// P1.5: sums and products in any order, and products with sums.
func TestAnyOrder(t *testing.T) {
	r := &right{t: t}
	l := smallSamples(25)
	asked := 0
	for _, x := range l {
		for _, y := range l {
			r.same("x + y", []api.Num{x, y}, of(Add, x, y), of(Add, y, x))
			r.same("x y", []api.Num{x, y}, of(Mul, x, y), of(Mul, y, x))
			r.same("x - y", []api.Num{x, y}, of(Sub, x, y), func() (api.Num, api.Errno) {
				return both(Add, is(x), func() (api.Num, api.Errno) { return Neg(y) })
			})
			r.same("x - y + y", []api.Num{x, y}, is(x), func() (api.Num, api.Errno) { return both(Add, of(Sub, x, y), is(y)) })
			for _, z := range l {
				asked++
				r.same("x + y + z", []api.Num{x, y, z}, func() (api.Num, api.Errno) { return both(Add, of(Add, x, y), is(z)) }, func() (api.Num, api.Errno) { return both(Add, is(x), of(Add, y, z)) })
				r.same("x y z", []api.Num{x, y, z}, func() (api.Num, api.Errno) { return both(Mul, of(Mul, x, y), is(z)) }, func() (api.Num, api.Errno) { return both(Mul, is(x), of(Mul, y, z)) })
				r.same("x (y + z)", []api.Num{x, y, z}, func() (api.Num, api.Errno) { return both(Mul, is(x), of(Add, y, z)) }, func() (api.Num, api.Errno) { return both(Add, of(Mul, x, y), of(Mul, x, z)) })
				r.same("Sum", []api.Num{x, y, z}, func() (api.Num, api.Errno) { return Sum([]api.Num{x, y, z}) }, func() (api.Num, api.Errno) { return Sum([]api.Num{z, x, y}) })
			}
		}
	}
	if r.large > asked {
		t.Error("too many are too large:", r.large, "of", 4*asked)
	}
}

// P1.5: what is divided and multiplied again is as it was, and the other way round.
func TestDividedAndMultiplied(t *testing.T) {
	divided := 0
	l := smallSamples(60)
	for _, x := range l {
		for _, y := range l {
			if z, e := Divide(x, y); e == api.OK {
				divided++
				got, e := Mul(z, y)
				want, _ := Least(x)
				wantNum(t, fmt.Sprint(x, " / ", y), got, e, want, api.OK)
			}
			z, e := Mul(x, y)
			if y == (api.Num{}) || e != api.OK || !coefsOf(z).within(MaxPart) {
				continue
			}
			if y, _ := Least(y); !coefsOf(y).within(MaxPart) {
				continue
			}
			got, e := Divide(z, y)
			want, _ := Least(x)
			wantNum(t, fmt.Sprint(x, " times ", y), got, e, want, api.OK)
		}
	}
	if divided < 100 {
		t.Error("too few quotients:", divided)
	}
}

// P1.5: conjugates and dots of sums and products, and those that are done twice.
func TestConjugatesAndDots(t *testing.T) {
	r := &right{t: t}
	l := smallSamples(50)
	for name, do := range map[string]func(api.Num) (api.Num, api.Errno){"conjugate": Conj, "dot": Dot} {
		for _, x := range append(l, samples(200)...) {
			once, e := do(x)
			if e != api.OK {
				t.Error(name, x, e)
			}
			twice, e := do(once)
			want, _ := Least(x)
			wantNum(t, fmt.Sprint(name, " twice of ", x), twice, e, want, api.OK)
		}
		one := func(x api.Num) func() (api.Num, api.Errno) { return func() (api.Num, api.Errno) { return do(x) } }
		for _, x := range l {
			for _, y := range l {
				for part, join := range map[string]func(x, y api.Num) (api.Num, api.Errno){"sum": Add, "product": Mul} {
					r.same(name+" of a "+part, []api.Num{x, y}, func() (api.Num, api.Errno) {
						z, e := join(x, y)
						if e != api.OK {
							return z, e
						}
						return do(z)
					}, func() (api.Num, api.Errno) { return both(join, one(x), one(y)) })
				}
			}
		}
	}
	if r.large > len(l)*len(l) {
		t.Error("too many are too large:", r.large)
	}
}

// P1.5: a norm is real, not less than 0, and 0 just for 0.
func TestNorms(t *testing.T) {
	normed := 0
	for _, x := range append(smallSamples(300), samples(300)...) {
		norm, e := Norm(x)
		if e == api.ErrLarge {
			continue
		}
		normed++
		if is, f := Real(norm); !is || e != api.OK || f != api.OK {
			t.Error("not real:", x, norm, e, f)
		}
		if less, e := Less(norm, api.Num{}); less || e != api.OK {
			t.Error("less than 0:", x, norm, e)
		}
		zero, _ := Same(x, api.Num{})
		above, _ := Less(api.Num{}, norm)
		if zero == above {
			t.Error("not 0 just for 0:", x, norm)
		}
	}
	if normed < 300 {
		t.Error("too few norms:", normed)
	}
}

// P1.5: real numbers have an order.
func TestOrder(t *testing.T) {
	l := append(realSamples(40), num(1, 0, 0, 0, 0), num(0, 1, 0, -1, 0), num(1, 0, 0, 0, 1), num(3, -2, 0, 2, 0), num(7, -5, 0, 5, 0), api.Num{})
	type pair struct{ x, y int }
	less := map[pair]bool{}
	known := map[pair]bool{}
	for i, x := range l {
		for j, y := range l {
			is, e := Less(x, y)
			less[pair{i, j}], known[pair{i, j}] = is, e == api.OK
			same, _ := Same(x, y)
			back, f := Less(y, x)
			if e == api.OK && f == api.OK && (is && back || same && is || !same && !is && !back) {
				t.Error("not just one of less, same and greater:", x, y)
			}
		}
	}
	for i := range l {
		for j := range l {
			for k := range l {
				if less[pair{i, j}] && less[pair{j, k}] && known[pair{i, k}] && !less[pair{i, k}] {
					t.Error("not less:", l[i], l[j], l[k])
				}
			}
		}
	}
}

// P1.5: the same value has the same text, and no other value has it.
func TestOneText(t *testing.T) {
	texts := map[string]api.Num{}
	for _, x := range append(smallSamples(400), samples(400)...) {
		s, e := Print(x)
		value, _ := Least(x)
		if other, ok := texts[s]; e != api.OK || ok && other != value {
			t.Error(s, "is the text of", value, "and of", other)
		}
		texts[s] = value
		for y := x; ; {
			y = num(y.B-y.D, y.A+y.C, y.B+y.D, y.C-y.A, y.K+1)
			if Check(y) != api.OK {
				break
			}
			if u, e := Print(y); u != s || e != api.OK {
				t.Error("other text of", y, ":", u, s)
			}
		}
	}
}

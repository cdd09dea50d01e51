package ring

import (
	"fmt"
	"testing"

	"spoondrift/api"
)

// P1.1: Check, with the limits and one beyond them.
func TestCheck(t *testing.T) {
	for _, c := range []int{api.MaxCoef, -api.MaxCoef, 0, 1} {
		for _, k := range []int{0, 1, api.MaxRoot} {
			for _, x := range []api.Num{num(c, 0, 0, 0, k), num(0, c, 0, 0, k), num(0, 0, c, 0, k), num(0, 0, 0, c, k), num(c, c, -c, -c, k)} {
				if e := Check(x); e != api.OK {
					t.Error(x, e)
				}
			}
		}
	}
	for x, want := range wrongNumbers() {
		if e := Check(x); e != want {
			t.Error(x, e, want)
		}
	}
}

// P1.1: the least forms that the chapter tells.
func TestLeastForms(t *testing.T) {
	const most = api.MaxCoef
	for _, x := range []struct{ x, want api.Num }{
		{num(2, 0, 0, 0, 2), num(1, 0, 0, 0, 0)},
		{num(1, 0, 1, 0, 1), num(0, 1, 0, 0, 0)},
		{num(1, 0, 0, 0, 1), num(1, 0, 0, 0, 1)},
		{num(0, 0, 0, 0, api.MaxRoot), num(0, 0, 0, 0, 0)},
		{num(2, 0, 0, 0, 0), num(2, 0, 0, 0, 0)},
		{num(1, 1, 1, 0, 3), num(1, 1, 1, 0, 3)},
		{num(1, 1, 0, 1, 3), num(1, 1, 0, 1, 3)},
		{num(-1, 3, 1, -5, 2), num(4, 0, -1, 1, 1)},
		{num(most, most, most, most, 1), num(0, most, most, 0, 0)},
		{num(most, 0, 0, 0, api.MaxRoot), num(1, 0, 0, 0, 0)},
		{num(most, 0, 0, 1, api.MaxRoot), num(most, 0, 0, 1, api.MaxRoot)},
		{num(-most, most, -most, most, 2), num(-most/2, most/2, -most/2, most/2, 0)},
	} {
		got, e := Least(x.x)
		wantNum(t, fmt.Sprint("Least ", x.x), got, e, x.want, api.OK)
	}
}

// P1.1: of all forms with integers, Least returns the one with the least K.
func TestLeastByAllForms(t *testing.T) {
	for _, x := range samples(400) {
		want, f := exactOf(x).least()
		got, e := Least(x)
		wantNum(t, fmt.Sprint("Least ", x), got, e, want, f)
	}
}

// P1.1: Same compares values, not forms.
func TestSame(t *testing.T) {
	for _, x := range []struct {
		x, y api.Num
		want bool
	}{
		{num(2, 0, 0, 0, 2), num(1, 0, 0, 0, 0), true},
		{num(0, 0, 0, 0, 7), num(0, 0, 0, 0, 0), true},
		{num(0, 1, 0, -1, 1), num(1, 0, 0, 0, 0), true},
		{num(1, 0, 0, 0, 1), num(1, 0, 0, 0, 0), false},
		{num(1, 0, 0, 0, 0), num(-1, 0, 0, 0, 0), false},
		{num(0, 1, 0, 0, 3), num(0, 0, 1, 0, 3), false},
	} {
		if got, e := Same(x.x, x.y); got != x.want || e != api.OK {
			t.Error(x, got, e)
		}
	}
	l := samples(60)
	for _, x := range l {
		for _, y := range l {
			a, _ := exactOf(x).least()
			b, _ := exactOf(y).least()
			if got, e := Same(x, y); got != (a == b) || e != api.OK {
				t.Error(x, y, got, e)
			}
		}
	}
}

// The errors of Check come first, those of the first number before those of the second one, and with an error all
// other results are zero.
func TestErrorsOfCheckFirst(t *testing.T) {
	one := num(1, 0, 0, 0, 0)
	for x, want := range wrongNumbers() {
		for name, f := range unaries() {
			got, e := f(x)
			wantNum(t, fmt.Sprint(name, x), got, e, api.Num{}, want)
		}
		for name, f := range binaries() {
			for y, other := range wrongNumbers() {
				got, e := f(x, y)
				wantNum(t, fmt.Sprint(name, x, y), got, e, api.Num{}, want)
				got, e = f(y, x)
				wantNum(t, fmt.Sprint(name, y, x), got, e, api.Num{}, other)
			}
			got, e := f(one, x)
			wantNum(t, fmt.Sprint(name, one, x), got, e, api.Num{}, want)
			got, e = f(x, api.Num{})
			wantNum(t, fmt.Sprint(name, x, "0"), got, e, api.Num{}, want)
		}
		if is, e := Real(x); is || e != want {
			t.Error("Real", x, is, e)
		}
		if s, e := Print(x); s != "" || e != want {
			t.Error("Print", x, s, e)
		}
		for _, n := range []int{0, 1, 2, MaxPower + 1, -1, smallest} {
			got, e := Power(x, n)
			wantNum(t, fmt.Sprint("Power ", x, n), got, e, api.Num{}, want)
		}
	}
}

// unaries are the functions of one number that return one.
func unaries() map[string]func(api.Num) (api.Num, api.Errno) {
	return map[string]func(api.Num) (api.Num, api.Errno){
		"Least": Least, "Neg": Neg, "Conj": Conj, "Dot": Dot, "Norm": Norm,
		"Sum": func(x api.Num) (api.Num, api.Errno) { return Sum([]api.Num{x}) },
	}
}

// binaries are the functions of two numbers; what is no number is put into one.
func binaries() map[string]func(x, y api.Num) (api.Num, api.Errno) {
	return map[string]func(x, y api.Num) (api.Num, api.Errno){
		"Add": Add, "Sub": Sub, "Mul": Mul, "Divide": Divide,
		"Sum":   func(x, y api.Num) (api.Num, api.Errno) { return Sum([]api.Num{x, y}) },
		"Phase": func(x, y api.Num) (api.Num, api.Errno) { n, e := Phase(x, y); return api.Num{A: n}, e },
		"Same":  func(x, y api.Num) (api.Num, api.Errno) { is, e := Same(x, y); return truth(is), e },
		"Less":  func(x, y api.Num) (api.Num, api.Errno) { is, e := Less(x, y); return truth(is), e },
	}
}

// truth is 1 for what is so.
func truth(is bool) api.Num {
	if is {
		return api.Num{A: 1}
	}
	return api.Num{}
}

// P0.1: no function panics, and each one ends, with the least and the greatest integers in each field.
func TestAnyIntegers(t *testing.T) {
	edges := []int{smallest, smallest + 1, -api.MaxCoef - 1, -1, 0, 1, api.MaxRoot, api.MaxCoef, 1 << 62, greatest}
	var l []api.Num
	for i, a := range edges {
		for j, k := range edges {
			b, c, d := edges[(i+j)%len(edges)], edges[(3*i+j)%len(edges)], edges[(i+7*j)%len(edges)]
			l = append(l, num(a, b, c, d, k), num(0, 0, 0, a, k), num(0, a, 0, 0, b), num(a, a, a, a, k))
		}
	}
	for _, x := range l {
		for _, f := range unaries() {
			f(x)
		}
		for _, y := range l {
			for _, f := range binaries() {
				f(x, y)
			}
		}
		Real(x)
		Print(x)
		for _, n := range edges {
			Power(x, n)
		}
	}
	for _, n := range edges {
		Omega(n)
		Root(n)
	}
	Sum(l)
}

// The five examples of the chapter.
func TestExamples(t *testing.T) {
	w, w7 := num(0, 1, 0, 0, 0), num(0, 0, 0, -1, 0)
	for _, x := range []struct {
		x    api.Num
		want api.Num
		text string
	}{
		{num(2, 0, 0, 0, 2), num(1, 0, 0, 0, 0), "1"},
		{num(1, 0, 1, 0, 1), w, "w"},
		{num(1, 0, 0, 0, 1), num(1, 0, 0, 0, 1), "(1)/r1"},
		{num(0, 1, -2, -1, 0), num(0, 1, -2, -1, 0), "w-2w2-w3"},
	} {
		got, e := Least(x.x)
		wantNum(t, x.text, got, e, x.want, api.OK)
		if s, e := Print(x.x); s != x.text || e != api.OK {
			t.Error(x, s, e)
		}
	}
	got, e := Mul(w, w7)
	wantNum(t, "w times w^7", got, e, num(1, 0, 0, 0, 0), api.OK)
	got, e = Conj(w)
	wantNum(t, "conjugate of w", got, e, w7, api.OK)
	got, e = Dot(num(1, 0, 0, 0, 1))
	wantNum(t, "dot of 1/r", got, e, num(-1, 0, 0, 0, 1), api.OK)
	got, e = Norm(num(1, 1, 0, 0, 0))
	wantNum(t, "norm of 1 + w", got, e, num(2, 1, 0, -1, 0), api.OK)
	got, e = Divide(num(1, 0, 0, 0, 0), num(1, 1, 0, 0, 0))
	wantNum(t, "1 / (1 + w)", got, e, num(0, 1, -1, 0, 1), api.OK)
	got, e = Divide(num(1, 0, 0, 0, 0), num(3, 0, 0, 0, 0))
	wantNum(t, "1 / 3", got, e, api.Num{}, api.ErrNone)
	if is, e := Real(num(2, -1, 0, 1, 0)); !is || e != api.OK {
		t.Error("2 - r is real", is, e)
	}
	if is, e := Less(num(2, -1, 0, 1, 0), num(1, 0, 0, 0, 0)); !is || e != api.OK {
		t.Error("2 - r is less than 1", is, e)
	}
	if is, e := Less(num(2, -1, 0, 1, 0), num(1, 0, 0, 0, 2)); is || e != api.OK {
		t.Error("2 - r is not less than 1/2", is, e)
	}
	if n, e := Phase(num(0, 0, 1, 0, 0), num(0, -1, 0, 0, 0)); n != 5 || e != api.OK {
		t.Error("phase of i and -w", n, e)
	}
	if n, e := Phase(num(1, 0, 0, 0, 0), num(2, 0, 0, 0, 0)); n != 0 || e != api.ErrNone {
		t.Error("phase of 1 and 2", n, e)
	}
}

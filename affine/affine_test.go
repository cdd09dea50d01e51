package affine

import (
	"slices"
	"testing"

	"spoondrift/api"
)

// P7.1: right maps, and the errors of others.
func TestCheck(t *testing.T) {
	for i, x := range wrongMaps() {
		if e := Check(x.m); e != x.e {
			t.Error(i, x.m, e, x.e)
		}
	}
	s := from(1)
	for wires := 1; wires <= api.MaxWires; wires++ {
		for range 3 {
			m := s.affine(wires)
			if e := Check(m); e != api.OK {
				t.Error(m, e)
			}
		}
	}
}

// P7.1: of all rows of up to three wires just those can be inverted that take different basis states to different ones.
func TestCheckAll(t *testing.T) {
	for wires := 1; wires <= 3; wires++ {
		for number := range 1 << (wires * wires) {
			m := rows(number%(1<<wires), digits(number, 1<<wires, wires)...)
			wanted := api.ErrNone
			if isRight(m) {
				wanted = api.OK
			}
			if e := Check(m); e != wanted {
				t.Error(m, e, wanted)
			}
		}
	}
}

// P7.1: the error of Check comes first, whatever else is wrong, and with an error all other results are zero.
func TestErrorsOfCheckFirst(t *testing.T) {
	for _, x := range wrongMaps() {
		for _, other := range []api.Affine{rows(0, 1), rows(0, 1, 2), {}, {Wires: 13}} {
			for _, state := range []int{0, -1, greatest} {
				for _, c := range calls(other, state) {
					if got, e := c.do(x.m); !isZero(got) || e != x.e {
						t.Error(c.name, x.m, got, e, x.e)
					}
				}
			}
		}
	}
}

// P7.1: of two wrong maps the first one has the error, and both are right before their wires are compared.
func TestTwoMaps(t *testing.T) {
	for _, x := range wrongMaps() {
		for _, y := range wrongMaps() {
			got, e := Compose(x.m, y.m)
			want(t, x, got, e, api.Affine{}, x.e)
		}
		got, e := Compose(rows(0, 1, 2, 4, 8, 16), x.m)
		want(t, x, got, e, api.Affine{}, x.e)
	}
	for n := 1; n <= api.MaxWires; n++ {
		for m := 1; m <= api.MaxWires; m++ {
			got, e := Compose(must(Identity(n)), must(Identity(m)))
			if n == m {
				want(t, n, got, e, must(Identity(n)), api.OK)
			} else {
				want(t, n, got, e, api.Affine{}, api.ErrClash)
			}
		}
	}
}

// P7.1: the identity of all numbers of wires, and of those that are not allowed.
func TestIdentity(t *testing.T) {
	for wires := 1; wires <= api.MaxWires; wires++ {
		m, e := Identity(wires)
		wanted := api.Affine{Wires: wires}
		for k := range wires {
			wanted.Rows = append(wanted.Rows, 1<<k)
		}
		want(t, wires, m, e, wanted, api.OK)
	}
	for _, wires := range []int{smallest, -1, 0, 13, 16, 17, 64, greatest} {
		m, e := Identity(wires)
		want(t, wires, m, e, api.Affine{}, api.ErrRange)
	}
}

// P7.1: Same compares Wires, Rows and Shift, and checks nothing.
func TestSame(t *testing.T) {
	all := append(allMaps(2), rows(0, 1), rows(1, 1), api.Affine{Wires: 3, Rows: []int{1, 2}}, api.Affine{Wires: 2, Rows: []int{1, 2, 4}}, api.Affine{Wires: 2}, api.Affine{Wires: -2}, api.Affine{Rows: []int{1, 2}}, api.Affine{})
	for _, x := range wrongMaps()[1:] {
		all = append(all, x.m)
	}
	for i, a := range all {
		for k, b := range all {
			b.Rows = slices.Clone(b.Rows)
			if is := Same(a, b); is != (textOf(a) == textOf(b)) || is != (i == k) {
				t.Error(a, b, is)
			}
		}
	}
	if !Same(api.Affine{Wires: 5, Rows: []int{}}, api.Affine{Wires: 5}) {
		t.Error("nil and an empty list are the same")
	}
}

// P7.2: where basis states are taken, and what is no basis state.
func TestApply(t *testing.T) {
	for wires := 1; wires <= 3; wires++ {
		for _, m := range allMaps(wires) {
			for x := range 1 << wires {
				y, e := Apply(m, x)
				want(t, m, y, e, goes(m, x), api.OK)
			}
		}
	}
	s := from(2)
	for wires := 1; wires <= api.MaxWires; wires++ {
		m := s.affine(wires)
		for _, x := range []int{0, 1, 1<<wires - 1, s.Intn(1 << wires), s.Intn(1 << wires)} {
			y, e := Apply(m, x)
			want(t, m, y, e, goes(m, x), api.OK)
		}
		for _, x := range []int{smallest, -1, 1 << wires, 1<<wires + 1, 1 << 16, 1 << 40, greatest} {
			y, e := Apply(m, x)
			want(t, m, y, e, 0, api.ErrForm)
		}
	}
}

// P7.2: Compose does one map, and then the other one.
func TestCompose(t *testing.T) {
	wantBoth := func(a, b api.Affine) {
		t.Helper()
		c, e := Compose(a, b)
		if e != api.OK || Check(c) != api.OK {
			t.Fatal(a, b, c, e)
		}
		first, second, both := permuted(a), permuted(b), permuted(c)
		for x, y := range both {
			if y != second[first[x]] {
				t.Error(a, b, c, x, y)
			}
		}
	}
	for wires := 1; wires <= 2; wires++ {
		for _, a := range allMaps(wires) {
			for _, b := range allMaps(wires) {
				wantBoth(a, b)
			}
		}
	}
	s := from(3)
	for i := range 120 {
		wires := 1 + i%api.MaxWires
		wantBoth(s.affine(wires), s.affine(wires))
	}
}

// P7.2: Inverse takes all back.
func TestInverse(t *testing.T) {
	wantBack := func(m api.Affine) {
		t.Helper()
		back, e := Inverse(m)
		if e != api.OK || Check(back) != api.OK {
			t.Fatal(m, back, e)
		}
		there, again := permuted(m), permuted(back)
		for x, y := range there {
			if again[y] != x {
				t.Error(m, back, x, y)
			}
		}
	}
	for wires := 1; wires <= 3; wires++ {
		for _, m := range allMaps(wires) {
			wantBack(m)
		}
	}
	s := from(4)
	for i := range 120 {
		wantBack(s.affine(1 + i%api.MaxWires))
	}
}

// R4: arguments stay as they are, and results share no memory with them or with one another.
func TestMemory(t *testing.T) {
	m := rows(5, slices.Grow([]int{3, 6, 4}, 9)...)
	other := rows(2, slices.Grow([]int{2, 1, 7}, 9)...)
	c := circuit(3, slices.Grow([]api.Gate{on(api.CX, 0, 1), on(api.X, 0), on(api.CX, 0, 1), on(api.Swap, 2, 1)}, 9)...)
	proof := slices.Grow(must(Proof(2)), 9)
	before := textOf([]any{m, other, c, proof})
	spoil := func(l []int) {
		for i := range l[:cap(l)] {
			l[:cap(l)][i] = -77
		}
	}
	// The shortest circuit of the map 303 has the same gate twice.
	results := func() (maps []api.Affine, circuits []api.Circuit, lists [][]int) {
		r, _, _ := Fixed(m)
		return []api.Affine{must(Identity(3)), must(Of(c)), must(Compose(m, other)), must(Compose(m, m)), must(Inverse(m)), must(Nth(3, 77))},
			[]api.Circuit{must(Circuit(m)), must(Shortest(m)), must(Circuit(must(Of(c)))), must(Shortest(must(Nth(3, 303))))},
			append(must(Parities(c)), r, must(Proof(2)))
	}
	maps, circuits, lists := results()
	wanted := textOf([]any{maps, circuits, lists})
	for i, m := range maps {
		spoil(m.Rows)
		maps[i].Rows = nil
	}
	for i, c := range circuits {
		for k, g := range c.Gates {
			spoil(g.Wires)
			c.Gates[k].Wires = nil
			for _, h := range c.Gates[k+1:] {
				if slices.Contains(h.Wires, -77) {
					t.Error(i, "two gates share their wires")
				}
			}
		}
		_ = append(c.Gates, on(99), on(99))
	}
	for i, l := range lists {
		spoil(l)
		for _, next := range lists[i+1:] {
			if slices.Contains(next, -77) {
				t.Error(i, "two lists share their numbers")
			}
		}
	}
	for _, c := range calls(other, 1) {
		c.do(m)
	}
	must(Holds(2, proof))
	Same(m, other)
	maps, circuits, lists = results()
	if got := textOf([]any{maps, circuits, lists}); got != wanted {
		t.Error(got, wanted)
	}
	if after := textOf([]any{m, other, c, proof}); after != before {
		t.Error(after, before)
	}
}

// P0.1: every call ends, and none panics, whatever its arguments are; with an error all other results are zero.
func TestNoPanic(t *testing.T) {
	s := from(5)
	odd := []int{smallest, -2, -1, 5, 8, 11, 12, 13, 15, 16, 64, 4095, 4096, greatest - 1, greatest}
	number := func() int {
		if s.Intn(9) == 0 {
			return odd[s.Intn(len(odd))]
		}
		return s.Intn(4)
	}
	numbers := func(n int) []int {
		l := make([]int, n)
		for i := range l {
			l[i] = number()
		}
		return l
	}
	some := func() api.Affine {
		return api.Affine{Wires: number(), Rows: numbers(s.Intn(4)), Shift: number()}
	}
	wires := []int{1, 2, 1, 2, 0, -1, 4, 12, smallest, greatest}
	for i := range 20000 {
		m, other := some(), some()
		for _, f := range calls(other, number()) {
			if got, e := f.do(m); e != api.OK && !isZero(got) {
				t.Error(f.name, m, got, e)
			}
		}
		Same(m, other)
		c := api.Circuit{Wires: number(), Bits: number()}
		for range s.Intn(4) {
			c.Gates = append(c.Gates, api.Gate{Kind: []int{api.X, api.CX, api.Swap, number()}[s.Intn(4)], Wires: numbers(s.Intn(4)), Bit: number(), If: number()})
		}
		a, e := Of(c)
		l, f := Parities(c)
		p, g := Nth(wires[i%len(wires)], number())
		is, h := Holds(wires[i%len(wires)], numbers([]int{2, 24}[i%2]))
		if e != f || e != api.OK && (!isZero(a) || !isZero(l)) || g != api.OK && !isZero(p) || h != api.OK && is {
			t.Error(c, a, l, p, is, e, f, g, h)
		}
	}
}

// The five examples of the chapter.
func TestExamples(t *testing.T) {
	c := circuit(2, on(api.CX, 0, 1), on(api.X, 0))
	m, e := Of(c)
	want(t, "Of", m, e, rows(1, 1, 3), api.OK)
	for x, wanted := range []int{1, 2, 3, 0} {
		y, e := Apply(m, x)
		want(t, x, y, e, wanted, api.OK)
	}
	order, e := Order(m)
	want(t, "Order", order, e, 4, api.OK)
	r, x, e := Fixed(m)
	want(t, "Fixed", fixed{r, x}, e, fixed{}, api.ErrNone)
	l, e := Parities(c)
	want(t, "Parities", l, e, [][]int{{1, 2}, {1, 3}, {5, 3}}, api.OK)
	d, e := Circuit(m)
	want(t, "Circuit", d, e, c, api.OK)
	d, e = Circuit(rows(0, 2, 1))
	want(t, "Circuit", d, e, circuit(2, on(api.CX, 1, 0), on(api.CX, 0, 1), on(api.CX, 1, 0)), api.OK)
	d, e = Shortest(rows(0, 2, 1))
	want(t, "Shortest", d, e, circuit(2, on(api.Swap, 0, 1)), api.OK)
	back, e := Inverse(rows(1, 1, 3))
	want(t, "Inverse", back, e, rows(3, 1, 3), api.OK)
	both, e := Compose(must(Of(circuit(2, on(api.CX, 0, 1)))), must(Of(circuit(2, on(api.CX, 1, 0)))))
	want(t, "Compose", both, e, rows(0, 2, 3), api.OK)
	order, e = Order(both)
	want(t, "Order", order, e, 3, api.OK)
	r, x, e = Fixed(both)
	want(t, "Fixed", fixed{r, x}, e, fixed{}, api.OK)
	for wires, wanted := range []int{0, 2, 24, 1344} {
		count, e := Count(wires)
		want(t, "Count", count, e, wanted, []api.Errno{api.ErrRange, 0, 0, 0}[wires])
	}
	m, e = Nth(2, 0)
	want(t, "Nth", m, e, rows(0, 1, 2), api.OK)
	m, e = Nth(2, 4)
	want(t, "Nth", m, e, rows(0, 1, 3), api.OK)
	proof, e := Proof(1)
	want(t, "Proof", proof, e, []int{0, 1}, api.OK)
	d, e = Shortest(rows(2, 1, 3))
	want(t, "Shortest", d, e, circuit(2, on(api.X, 1), on(api.CX, 0, 1)), api.OK)
	is, e := Holds(1, []int{0, 0})
	want(t, "Holds", is, e, true, api.OK)
	is, e = Holds(1, []int{0, 2})
	want(t, "Holds", is, e, false, api.OK)
}

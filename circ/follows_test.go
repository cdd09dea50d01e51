package circ

import (
	"fmt"
	"slices"
	"testing"

	"spoondrift/api"
)

// P4.6: the order in which two gates that commute are done changes nothing, for all pairs of gates.
func TestCommutingPairs(t *testing.T) {
	r := newRunner()
	all := allGates(3, 2)
	for i, g := range all {
		for _, h := range all[i:] {
			is, e := Commute(three(g, h), 0, 1)
			if e != api.OK || is && !r.doTheSame(three(g, h), three(h, g)) {
				t.Error(g, h, is, e)
			}
		}
	}
}

// P4.6: two gates that undo one another do nothing together, for all pairs of gates.
func TestUndoingPairs(t *testing.T) {
	r := newRunner()
	all := allGates(3, 2)
	for _, g := range all {
		for _, h := range all {
			is, e := Undo(three(g, h), 0, 1)
			if e != api.OK || is && !r.doTheSame(three(g, h), three()) {
				t.Error(g, h, is, e)
			}
		}
	}
}

// exchanged are the circuits that come of c by changing the places of two neighbours that commute.
func exchanged(t *testing.T, c api.Circuit) []api.Circuit {
	t.Helper()
	var l []api.Circuit
	for i := 1; i < len(c.Gates); i++ {
		is, e := Commute(c, i-1, i)
		if e != api.OK {
			t.Fatal(c, e)
		}
		if is {
			d := copyOf(c)
			d.Gates[i-1], d.Gates[i] = d.Gates[i], d.Gates[i-1]
			l = append(l, d)
		}
	}
	return l
}

// P4.6: all circuits that come of one another by changing the places of neighbours that commute have the same Tidy, and
// it is the first one of them in the order of gates.
func TestAllOrders(t *testing.T) {
	s := from(9)
	for i := range 150 {
		c := s.circuit(1+i%4, i%3, 1+s.Intn(6), 3)
		tidy := must(Tidy(c))
		first, seen, open := c, map[string]bool{textOf(c): true}, []api.Circuit{c}
		for len(open) > 0 {
			d := open[0]
			open = open[1:]
			got, e := Tidy(d)
			wantCircuit(t, d, got, e, tidy, api.OK)
			is, e := Equal(c, d)
			want(t, d, is, e, true, api.OK)
			order := func(g, h api.Gate) int {
				switch {
				case comesFirst(g, h):
					return -1
				case comesFirst(h, g):
					return 1
				}
				return 0
			}
			if slices.CompareFunc(d.Gates, first.Gates, order) < 0 {
				first = d
			}
			for _, d := range exchanged(t, d) {
				if !seen[textOf(d)] {
					seen[textOf(d)] = true
					open = append(open, d)
				}
			}
		}
		wantCircuit(t, c, tidy, api.OK, first, api.OK)
	}
}

// P4.6: long circuits that come of one another have the same Tidy, and Tidy does nothing more to it.
func TestTidyOfExchanged(t *testing.T) {
	s := from(10)
	for i := range 60 {
		c := s.circuit(2+i%11, i%9, 20+s.Intn(101), 20)
		tidy := must(Tidy(c))
		got, e := Tidy(tidy)
		wantCircuit(t, c, got, e, tidy, api.OK)
		d := copyOf(c)
		for range 300 {
			k := 1 + s.Intn(len(d.Gates)-1)
			if must(Commute(d, k, k-1)) {
				d.Gates[k-1], d.Gates[k] = d.Gates[k], d.Gates[k-1]
			}
		}
		got, e = Tidy(d)
		wantCircuit(t, d, got, e, tidy, api.OK)
		is, e := Equal(d, c)
		want(t, d, is, e, true, api.OK)
	}
}

// P4.6: Tidy and Cancel keep what a circuit does on every state and for every outcome.
func TestMeaningStays(t *testing.T) {
	s, r := from(11), newRunner()
	cancelled := 0
	for i := range 600 {
		c := s.circuit(1+i%4, i/4%3, s.Intn(16), 3)
		tidy, e := Tidy(c)
		if e != api.OK || !r.doTheSame(c, tidy) {
			t.Error(c, tidy, e)
		}
		cancel, e := Cancel(c)
		if e != api.OK || !r.doTheSame(c, cancel) {
			t.Error(c, cancel, e)
		}
		cancelled += len(c.Gates) - len(cancel.Gates)
	}
	if cancelled < 500 {
		t.Error("too few gates were taken out:", cancelled)
	}
}

// P4.6: Cancel has as many gates as before, or fewer by an even number, and done again it does nothing more.
func TestCancelAgain(t *testing.T) {
	s := from(12)
	for i := range 2000 {
		c := s.circuit(1+i%5, i%4, s.Intn(40), 6)
		got := must(Cancel(c))
		if less := len(c.Gates) - len(got.Gates); less < 0 || less%2 != 0 {
			t.Error(c, got)
		}
		again, e := Cancel(got)
		wantCircuit(t, c, again, e, got, api.OK)
	}
}

// P4.6: Inverse of Inverse is the circuit; it undoes the circuit, and Cancel of both has no gates.
func TestInverses(t *testing.T) {
	s, r := from(13), newRunner()
	for i := range 500 {
		c := s.plain(1+i%5, s.Intn(61))
		back := must(Inverse(c))
		got, e := Inverse(back)
		wantCircuit(t, c, got, e, c, api.OK)
		for _, both := range []api.Circuit{must(Compose(c, back)), must(Compose(back, c))} {
			got, e = Cancel(both)
			wantCircuit(t, c, got, e, circuit(c.Wires, c.Bits), api.OK)
			if i%10 < 4 && !r.doTheSame(both, circuit(c.Wires, c.Bits)) {
				t.Error(c, "is not undone")
			}
		}
	}
}

// P4.6: Inverse of Compose is Compose of the Inverses the other way round.
func TestInverseOfCompose(t *testing.T) {
	s := from(14)
	for i := range 300 {
		c, d := s.plain(1+i%6, s.Intn(61)), s.plain(1+i%6, s.Intn(61))
		got, e := Inverse(must(Compose(c, d)))
		wanted := must(Compose(must(Inverse(d)), must(Inverse(c))))
		wantCircuit(t, fmt.Sprint(c, d), got, e, wanted, api.OK)
	}
}

// P4.6: a layer has no two gates that meet, so that its gates can be done in any order.
func TestLayersApart(t *testing.T) {
	s := from(15)
	for i := range 300 {
		c := s.circuit(1+i%12, i%9, s.Intn(60), 20)
		layers := must(Layers(c))
		for j, g := range c.Gates {
			for k, h := range c.Gates[:j] {
				if doMeet(g, h) && layers[j] <= layers[k] {
					t.Error(c, j, k, "meet in the layers", layers[j], layers[k])
				}
			}
		}
		// A gate that is not in the layer 0 meets one in the layer before it.
		for j, g := range c.Gates {
			meets := func(k int) bool { return layers[k] == layers[j]-1 && doMeet(g, c.Gates[k]) }
			if layers[j] > 0 && !slices.ContainsFunc(numbers(j), meets) {
				t.Error(c, j, layers)
			}
		}
	}
}

// numbers are those from 0 to n - 1.
func numbers(n int) []int {
	l := make([]int, n)
	for i := range l {
		l[i] = i
	}
	return l
}

// P4.6: Relabel by a list and then by its converse is the circuit; and slices of it put together are.
func TestThereAndBack(t *testing.T) {
	s := from(16)
	for i := range 300 {
		c := s.circuit(1+i%12, i%9, s.Intn(121), 20)
		l := s.Perm(c.Wires)
		converse := make([]int, len(l))
		for k, wire := range l {
			converse[wire] = k
		}
		got, e := Relabel(must(Relabel(c, l)), converse)
		wantCircuit(t, c, got, e, c, api.OK)
		cut := s.Intn(len(c.Gates) + 1)
		got, e = Compose(must(Slice(c, 0, cut)), must(Slice(c, cut, len(c.Gates))))
		wantCircuit(t, c, got, e, c, api.OK)
	}
}

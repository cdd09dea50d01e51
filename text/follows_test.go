package text

import (
	"slices"
	"testing"

	"spoondrift/api"
	"spoondrift/circ"
)

// P5.5, P0.2: reading what was printed gives the same circuit, and printing that changes nothing any more.
func TestThereAndBack(t *testing.T) {
	s := from(4)
	for range 1000 {
		c := s.circuit(api.MaxGates)
		printed := must(Print(c))
		wantRead(t, printed, c, 0, api.OK)
		if tidy, at, e := Tidy(printed); tidy != printed || at != 0 || e != api.OK {
			t.Errorf("%q: %q, %d, error %d", printed, tidy, at, e)
		}
		for _, g := range c.Gates {
			back := parsed("wires 12 bits 8;" + must(Show(g)))
			if !circ.Same(back, circuit(12, 8, g)) {
				t.Error(g, back)
			}
		}
	}
}

// P5.5: texts of unlike circuits are printed unlike, for all gates on three wires and two bits.
func TestUnlike(t *testing.T) {
	var all []api.Circuit
	for a := range 3 {
		for b := range 3 {
			for d := range 3 {
				for kind := api.X; kind <= api.Reset; kind++ {
					for n := range 3 {
						g := when(n, kind, []int{a, b, d}[:arities[kind]]...)
						if kind == api.Measure {
							g.Bit, g.If = n, 0
						}
						for _, c := range []api.Circuit{circuit(3, 2, g), circuit(4, 2, g), circuit(3, 3, g), circuit(3, 2, g, g)} {
							if circ.Check(c) == api.OK {
								all = append(all, c)
							}
						}
					}
				}
			}
		}
	}
	by := map[string]api.Circuit{}
	for _, c := range all {
		text := must(Print(c))
		if other, is := by[text]; is && !circ.Same(c, other) {
			t.Errorf("%v and %v: %q", c, other, text)
		}
		by[text] = c
	}
	if len(by) < 200 {
		t.Error(len(by))
	}
}

// P5.5: a text with layout anywhere between its tokens has the same circuit.
func TestLayoutAnywhere(t *testing.T) {
	s := from(5)
	for range 3000 {
		c := s.circuit(10)
		wantRead(t, s.spread(pieces(c)), c, 0, api.OK)
	}
}

// P5.5: each beginning of a right text is one, or wrong at its length, but where it ends within a word or a number.
func TestBeginnings(t *testing.T) {
	s := from(6)
	isPart := func(b byte) bool { return b >= 'a' && b <= 'z' || b >= '0' && b <= '9' }
	for range 300 {
		text := s.spread(pieces(s.circuit(6)))
		l, _, _ := Tokens(text)
		within := func(at int) bool {
			return slices.ContainsFunc(l, func(token Token) bool { return token.At < at && at < token.At+len(token.Text) })
		}
		for at := range len(text) + 1 {
			_, wrong, e := Parse(text[:at])
			if is := e == api.OK && wrong == 0 || e == api.ErrForm && wrong == at; !is && !within(at) {
				t.Errorf("%q: %d, error %d", text[:at], wrong, e)
			}
			if within(at) && !isPart(text[at]) {
				t.Error(text, at)
			}
		}
	}
}

// P5.5: a text that is wrong before its last token is wrong there, too, if anything is put behind it.
func TestPutBehind(t *testing.T) {
	s := from(7)
	tried := 0
	for range 5000 {
		text := s.spread(s.worsen(pieces(s.circuit(4))))
		_, at, e := Parse(text)
		l, broken, cutAt := cutOf(text)
		if e != api.ErrForm || len(l) == 0 || at >= l[len(l)-1].At && (broken != 0 || cutAt == len(text)) || at > l[len(l)-1].At {
			continue
		}
		tried++
		for _, more := range []string{"", " ", "x", "0", "\n", ";", ":", "!", "#", "\n;", " wires 1;", "\xff", s.spread(pieces(s.circuit(2)))} {
			wantRead(t, text+more, api.Circuit{}, at, api.ErrForm)
		}
	}
	if tried < 1000 {
		t.Error(tried)
	}
}

// P5.5: changing a gate leaves all other bytes as they are, and the circuit's other gates in their order.
func TestOthersStay(t *testing.T) {
	s := from(8)
	for range 1000 {
		c := s.circuit(8)
		text := s.spread(pieces(c))
		var more []api.Gate
		for range s.Intn(3) {
			more = append(more, s.gate(c.Wires, c.Bits))
		}
		tokens := pieces(circuit(c.Wires, c.Bits, more...))
		u := s.spread(tokens[slices.Index(tokens, ";")+1:]) + "\n"
		wantOthers(t, text, u, c, more)
	}
}

// wantOthers fails the test if something else than a gate changes, for all gates of a text.
func wantOthers(t *testing.T, text, u string, c api.Circuit, more []api.Gate) {
	t.Helper()
	last := 0
	for i := range c.Gates {
		from, to, e := Where(text, i)
		if e != api.OK || from < last || text[to-1] != ';' {
			t.Errorf("%q, gate %d: from %d to %d, error %d", text, i, from, to, e)
		}
		last = to
		own := parsed("wires 12 bits 8;" + text[from:to])
		if !circ.Same(own, circuit(12, 8, c.Gates[i])) {
			t.Errorf("%q, gate %d: %q", text, i, text[from:to])
		}
		put, e := Put(text, i, u)
		if e != api.OK || put != text[:from]+u+text[to:] {
			t.Errorf("Put %q, gate %d, %q: %q, error %d", text, i, u, put, e)
			continue
		}
		wantRead(t, put, circuit(c.Wires, c.Bits, slices.Concat(c.Gates[:i], more, c.Gates[i+1:])...), 0, api.OK)
		inserted, e := Insert(text, i, u)
		if e != api.OK || inserted != text[:from]+u+"\n"+text[from:] {
			t.Errorf("Insert %q, gate %d, %q: %q, error %d", text, i, u, inserted, e)
		}
		wantRead(t, inserted, circuit(c.Wires, c.Bits, slices.Concat(c.Gates[:i], more, c.Gates[i:])...), 0, api.OK)
	}
	inserted, e := Insert(text, len(c.Gates), u)
	if e != api.OK || inserted != text+"\n"+u {
		t.Errorf("Insert %q, last, %q: %q, error %d", text, u, inserted, e)
	}
	wantRead(t, inserted, circuit(c.Wires, c.Bits, slices.Concat(c.Gates, more)...), 0, api.OK)
}

// P0.1: every call ends, and none panics, whatever its arguments are; with an error all else is zero (R2).
func TestNoPanic(t *testing.T) {
	s := from(9)
	numbers := []int{smallest, -2, -1, 0, 1, 2, 3, 8, 12, 13, 14, 15, 999, 1000, 1001, greatest}
	number := func() int { return numbers[s.Intn(len(numbers))] }
	text := func() string {
		switch s.Intn(3) {
		case 0:
			b := make([]byte, s.Intn(20))
			s.Read(b)
			return string(b)
		case 1:
			return s.bytes(s.spread(pieces(s.circuit(3))))
		}
		return s.spread(pieces(s.circuit(3)))
	}
	for range 20000 {
		a, u, n := text(), text(), number()
		if l, at, e := Tokens(a); e != api.OK && len(l) > 0 || e == api.OK && at != 0 {
			t.Error(a, l, at, e)
		}
		if c, at, e := Parse(a); e != api.OK && !circ.Same(c, api.Circuit{}) || e == api.OK && at != 0 {
			t.Error(a, c, at, e)
		}
		if tidy, at, e := Tidy(a); (e == api.OK) != (tidy != "") || e == api.OK && at != 0 {
			t.Error(a, tidy, at, e)
		}
		if from, to, e := Where(a, n); (e == api.OK) != (to != 0) || e != api.OK && from != 0 {
			t.Error(a, n, from, to, e)
		}
		for _, c := range changes {
			if got, e := c.do(a, n, u); (e == api.OK) != (got != "") {
				t.Error(c.name, a, n, u, got, e)
			}
		}
		if line, column, e := Place(a, n); (e == api.OK) != (line > 0 && column > 0) {
			t.Error(a, n, line, column, e)
		}
		g := api.Gate{Kind: number(), Wires: []int{number(), number(), number()}[:s.Intn(4)], Bit: number(), If: number()}
		if got, e := Show(g); (e == api.OK) != (got != "") {
			t.Error(g, got, e)
		}
		if got, e := Print(circuit(number(), number(), g)); (e == api.OK) != (got != "") {
			t.Error(g, got, e)
		}
	}
}

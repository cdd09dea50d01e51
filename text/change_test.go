package text

import (
	"strings"
	"testing"

	"spoondrift/api"
)

// change is a function that changes a text.
type change struct {
	name string
	do   func(s string, gate int, u string) (string, api.Errno)
}

var changes = []change{{"Put", Put}, {"Insert", Insert}}

// wantWhere fails the test if a gate's bytes are not those that are wanted.
func wantWhere(t *testing.T, s string, gate, from, to int, e api.Errno) {
	t.Helper()
	if a, b, f := Where(s, gate); a != from || b != to || f != e {
		t.Errorf("%q, gate %d: from %d to %d, error %d; want from %d to %d, error %d", s, gate, a, b, f, from, to, e)
	}
}

// P5.3: the bytes of gates, from the first token to the ;.
func TestWhere(t *testing.T) {
	for _, x := range []struct {
		s        string
		gate     int
		from, to int
	}{
		{"wires 1;\nh 0; # so\nt 0;", 0, 9, 13}, {"wires 1;\nh 0; # so\nt 0;", 1, 19, 23},
		{"wires 1 bits 1;  if 0 : x 0 ;", 0, 17, 29}, {"wires1;x0;y0;", 0, 7, 10}, {"wires1;x0;y0;", 1, 10, 13},
		{"wires 2; #h 0;\n cx#;\n0 #\n1 # 2;\n ; h 1;#", 0, 16, 34}, {"wires 2; #h 0;\n cx#;\n0 #\n1 # 2;\n ; h 1;#", 1, 35, 39},
		{"wires 1 bits 1; measure 0 0;", 0, 16, 28},
	} {
		wantWhere(t, x.s, x.gate, x.from, x.to, api.OK)
	}
}

// P5.3: what is put in place of a gate, and before it, and behind all.
func TestChange(t *testing.T) {
	const s = "wires 1;\nh 0; # so\nt 0;"
	for _, x := range []struct {
		change
		s    string
		gate int
		u    string
		want string
	}{
		{changes[0], s, 0, "x 0; z 0;", "wires 1;\nx 0; z 0; # so\nt 0;"},
		{changes[0], s, 1, "x 0;", "wires 1;\nh 0; # so\nx 0;"},
		{changes[0], s, 1, "", "wires 1;\nh 0; # so\n"},
		{changes[0], s, 0, "# was h 0;", "wires 1;\n# was h 0; # so\nt 0;"},
		{changes[0], s, 0, "x 0; # \t\xff", "wires 1;\nx 0; # \t\xff # so\nt 0;"},
		{changes[0], s, 0, "h 0;", s},
		{changes[0], "wires1;x0;y0;z0;", 1, "#\n", "wires1;x0;#\nz0;"},
		{changes[1], s, 0, "s 0;", "wires 1;\ns 0;\nh 0; # so\nt 0;"},
		{changes[1], s, 1, "s 0;", "wires 1;\nh 0; # so\ns 0;\nt 0;"},
		{changes[1], s, 2, "s 0;", "wires 1;\nh 0; # so\nt 0;\ns 0;"},
		{changes[1], s, 0, "#", "wires 1;\n#\nh 0; # so\nt 0;"},
		{changes[1], s, 0, "", "wires 1;\n\nh 0; # so\nt 0;"},
		{changes[1], s, 2, "# end", s + "\n# end"},
		{changes[1], s + "# end", 2, "x 0;", s + "# end\nx 0;"},
		{changes[1], "wires 1;", 0, "x 0; y 0;", "wires 1;\nx 0; y 0;"},
		{changes[1], "wires 1; ", 0, "", "wires 1; \n"},
		{changes[1], "wires1;x0;y0;", 1, "z0;", "wires1;x0;z0;\ny0;"},
	} {
		if got, e := x.do(x.s, x.gate, x.u); got != x.want || e != api.OK {
			t.Errorf("%s %q, %d, %q: %q, error %d; want %q", x.name, x.s, x.gate, x.u, got, e, x.want)
		}
	}
}

// P5.3: the errors of the text, of the gate's number, and of the new text, in this order.
func TestChangeErrors(t *testing.T) {
	const s = "wires 1 bits 1; h 0; t 0;"
	long := strings.Repeat(" ", api.MaxBytes+1)
	for _, x := range []struct {
		s    string
		gate int
		u    string
		e    api.Errno
	}{
		{long, 9, "!", api.ErrLong}, {"wires", 9, "!", api.ErrForm}, {"", 0, "wires 1;", api.ErrForm}, {"wires 1; !", 0, long, api.ErrForm}, {"wires 0;", 9, "!", api.ErrRange}, {"wires 1; h 1;", 0, "x 0;", api.ErrNot},
		{"wires 2; cx 1 1;", 9, "!", api.ErrTwice}, {"wires 1 bits 1; if 0: reset 0;", -1, "!", api.ErrClash}, {"wires 1;" + strings.Repeat("x0;", api.MaxGates+1), -1, "", api.ErrMany},
		{s, -1, "!", api.ErrNot}, {s, 3, "!", api.ErrNot}, {s, 3, long, api.ErrNot}, {s, greatest, "x 0;", api.ErrNot}, {s, smallest, "x 0;", api.ErrNot},
		{s, 0, long, api.ErrLong}, {s, 1, "!", api.ErrForm}, {s, 1, "x", api.ErrForm}, {s, 1, "x 0; ;", api.ErrForm}, {s, 0, "\t", api.ErrForm}, {s, 0, "wires 1;", api.ErrForm}, {s, 1, "x 1;", api.ErrNot}, {s, 0, "cx 0 0;", api.ErrTwice},
		{s, 0, "if 0: measure 0 0;", api.ErrClash}, {s, 1, strings.Repeat("x 0;", api.MaxGates), api.ErrMany}, {s, 1, "x 0; cx 0 1;", api.ErrNot},
	} {
		for _, c := range changes {
			if got, e := c.do(x.s, x.gate, x.u); got != "" || e != x.e {
				t.Errorf("%s %.50q, %d, %.50q: %.50q, error %d; want error %d", c.name, x.s, x.gate, x.u, got, e, x.e)
			}
		}
	}
	for _, x := range []struct {
		s    string
		gate int
		e    api.Errno
	}{
		{long, 0, api.ErrLong}, {"wires 1; !", -1, api.ErrForm}, {"wires 1; h 1; ", 0, api.ErrNot}, {"wires 0; h 1;", 9, api.ErrRange},
		{s, -1, api.ErrNot}, {s, 2, api.ErrNot}, {"wires 1;", 0, api.ErrNot}, {s, greatest, api.ErrNot}, {s, smallest, api.ErrNot},
	} {
		wantWhere(t, x.s, x.gate, 0, 0, x.e)
	}
	// A gate's number is asked before the new text; Put has no gate behind the last one, Insert has a place there.
	if got, e := Put(s, 2, "x 0;"); got != "" || e != api.ErrNot {
		t.Error(got, e)
	}
	if got, e := Insert(s, 2, "x 9;"); got != "" || e != api.ErrNot {
		t.Error(got, e)
	}
	if got, e := Insert(s, 2, "!"); got != "" || e != api.ErrForm {
		t.Error(got, e)
	}
}

// P5.3: the greatest text that a change can make, and one byte more.
func TestChangeLong(t *testing.T) {
	const s = "wires 1;x0;"
	for _, x := range []struct {
		change
		gate, room int
	}{{changes[0], 0, api.MaxBytes - 8}, {changes[1], 0, api.MaxBytes - 12}, {changes[1], 1, api.MaxBytes - 12}} {
		if got, e := x.do(s, x.gate, strings.Repeat(" ", x.room)); len(got) != api.MaxBytes || e != api.OK {
			t.Error(x.name, x.gate, len(got), e)
		}
		if got, e := x.do(s, x.gate, strings.Repeat(" ", x.room+1)); got != "" || e != api.ErrLong {
			t.Error(x.name, x.gate, len(got), e)
		}
	}
}

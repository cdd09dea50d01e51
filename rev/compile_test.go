package rev

import (
	"testing"

	"spoondrift/api"
)

// nested is an expression in so many Ands, each with one variable more.
func nested(e api.Bool, ands int) api.Bool {
	for range ands {
		e = of(And, e, v(0))
	}
	return e
}

// P8.4: the compiled circuit of all short expressions, and of long ones, by the words of the chapter.
func TestCompile(t *testing.T) {
	for size := 1; size <= 5; size++ {
		for _, e := range expressions(size, 2) {
			c, f := Compile(e, 2)
			want(t, e, c, f, compiled(e, 2), api.OK)
		}
	}
	s := from(9)
	found := map[api.Errno]int{}
	for range 6000 {
		vars := 1 + s.Intn(MaxVars)
		e := s.expression(1+s.Intn(MaxBool), vars)
		wanted := compiled(e, vars)
		wantedError := compileError(wanted)
		found[wantedError]++
		if wantedError != api.OK {
			wanted = api.Circuit{}
		}
		c, f := Compile(e, vars)
		want(t, e, c, f, wanted, wantedError)
	}
	if found[api.OK] < 100 || found[api.ErrFull] < 100 || found[api.ErrMany] < 100 {
		t.Error(found)
	}
}

// P8.4: the greatest number of wires and of gates, and one more.
func TestCompileLimits(t *testing.T) {
	or := of(Or, v(0), v(1))
	nots := func(n int) api.Bool { return chain(of(Xor, of(Xor, nested(or, 3), nested(or, 1)), or), n) }
	for i, wanted := range []struct {
		e            api.Bool
		vars         int
		wires, gates int
		f            api.Errno
	}{
		{v(7), 8, 9, 1, api.OK},
		{nested(v(0), 4), 8, 12, 15, api.OK},
		{nested(v(0), 5), 8, 13, 31, api.ErrFull},
		{nested(v(0), 5), 7, 12, 31, api.OK},
		{nested(v(0), 6), 2, 8, 63, api.OK},
		{nested(v(0), 7), 2, 9, 127, api.ErrMany},
		{nested(v(0), 10), 2, 12, 1023, api.ErrMany},
		{nested(v(0), 11), 2, 13, 2047, api.ErrFull},
		{nested(v(0), 7), 6, 13, 127, api.ErrFull},
		{nots(0), 2, 8, 118, api.OK},
		{nots(1), 2, 8, 119, api.OK},
		{nots(2), 2, 8, 120, api.OK},
		{nots(3), 2, 8, 121, api.ErrMany},
		{nots(2), 6, 12, 120, api.OK},
		{nots(2), 7, 13, 120, api.ErrFull},
		{nots(3), 7, 13, 121, api.ErrFull},
	} {
		own := compiled(wanted.e, wanted.vars)
		if own.Wires != wanted.wires || len(own.Gates) != wanted.gates || sizeOf(wanted.e) > MaxBool {
			t.Fatal(i, own.Wires, len(own.Gates), sizeOf(wanted.e))
		}
		if wanted.f != api.OK {
			own = api.Circuit{}
		}
		c, f := Compile(wanted.e, wanted.vars)
		want(t, i, c, f, own, wanted.f)
	}
}

// P8.4: wires are free again behind an And, and behind each Arg of it; one variable twice has one wire.
func TestCompileWires(t *testing.T) {
	and := of(And, v(0), v(1))
	for i, wanted := range []struct {
		e api.Bool
		c api.Circuit
	}{
		{of(And, v(1), v(1)), circuit(3, cx(1, 2))},
		{of(And, v(1), v(0)), circuit(3, ccx(1, 0, 2))},
		{of(And, of(No), of(No)), circuit(5, ccx(3, 4, 2))},
		{of(And, v(1), of(Yes)), circuit(4, x(3), ccx(1, 3, 2), x(3))},
		{of(And, of(Yes), v(1)), circuit(4, x(3), ccx(3, 1, 2), x(3))},
		{of(Xor, of(And, and, v(0)), of(And, v(1), and)), circuit(4, ccx(0, 1, 3), ccx(3, 0, 2), ccx(0, 1, 3), ccx(0, 1, 3), ccx(1, 3, 2), ccx(0, 1, 3))},
		{of(And, of(And, and, v(1)), of(Yes)), circuit(5, ccx(0, 1, 4), ccx(4, 1, 3), ccx(0, 1, 4), x(4), ccx(3, 4, 2), x(4), ccx(0, 1, 4), ccx(4, 1, 3), ccx(0, 1, 4))},
		{of(And, of(Yes), of(And, and, v(1))), circuit(6, x(3), ccx(0, 1, 5), ccx(5, 1, 4), ccx(0, 1, 5), ccx(3, 4, 2), ccx(0, 1, 5), ccx(5, 1, 4), ccx(0, 1, 5), x(3))},
	} {
		c, f := Compile(wanted.e, 2)
		want(t, i, c, f, wanted.c, api.OK)
	}
}

package rev

import (
	"slices"
	"testing"

	"spoondrift/api"
)

// chain is an expression in so many Nots.
func chain(e api.Bool, nots int) api.Bool {
	for range nots {
		e = of(Not, e)
	}
	return e
}

// wide is a list of Args with no more in them.
func wide(n int) []api.Bool { return slices.Repeat([]api.Bool{of(No)}, n) }

// wrongBools are expressions that are not right with three variables, with their errors.
func wrongBools() []struct {
	e api.Bool
	f api.Errno
} {
	itself := make([]api.Bool, 2)
	itself[0] = api.Bool{Kind: Or, Args: itself}
	itself[1] = api.Bool{Kind: Not, Args: itself[:1]}
	doubled := v(0)
	for range 100 {
		doubled = of(And, doubled, doubled)
	}
	return []struct {
		e api.Bool
		f api.Errno
	}{
		{chain(v(0), MaxBool), api.ErrMany},
		{chain(of(9), MaxBool), api.ErrMany},
		{of(9, wide(MaxBool)...), api.ErrMany},
		{of(Yes, wide(MaxBool)...), api.ErrMany},
		{of(And, of(9, wide(11)...), of(No, wide(11)...)), api.ErrMany},
		{of(Xor, v(9), of(Var, wide(1000)...)), api.ErrMany},
		{itself[0], api.ErrMany},
		{itself[1], api.ErrMany},
		{doubled, api.ErrMany},
		{api.Bool{}, api.ErrRange},
		{of(8), api.ErrRange},
		{of(-1), api.ErrRange},
		{of(smallest), api.ErrRange},
		{of(greatest, v(0)), api.ErrRange},
		{api.Bool{Kind: 8, Var: 5, Args: []api.Bool{v(9)}}, api.ErrRange},
		{of(9, wide(MaxBool-1)...), api.ErrRange},
		{chain(of(9), MaxBool-1), api.ErrRange},
		{of(Var, v(0)), api.ErrClash},
		{of(Var, v(0), v(0)), api.ErrClash},
		{of(Not), api.ErrClash},
		{of(Not, v(0), v(1)), api.ErrClash},
		{of(And), api.ErrClash},
		{of(And, v(0)), api.ErrClash},
		{of(And, v(0), v(1), v(2)), api.ErrClash},
		{of(Xor, v(0)), api.ErrClash},
		{of(Xor, v(0), v(1), v(2)), api.ErrClash},
		{of(Or, v(0)), api.ErrClash},
		{of(Or, v(0), v(1), v(2)), api.ErrClash},
		{of(No, v(0)), api.ErrClash},
		{of(Yes, v(0)), api.ErrClash},
		{of(Yes, wide(MaxBool-1)...), api.ErrClash},
		{api.Bool{Kind: Var, Var: 7, Args: []api.Bool{v(0)}}, api.ErrClash},
		{api.Bool{Kind: Not, Var: 1, Args: []api.Bool{v(0)}}, api.ErrClash},
		{api.Bool{Kind: And, Var: 3, Args: []api.Bool{v(0), v(1)}}, api.ErrClash},
		{api.Bool{Kind: Xor, Var: -1, Args: []api.Bool{v(0), v(1)}}, api.ErrClash},
		{api.Bool{Kind: Or, Var: 2, Args: []api.Bool{v(0), v(1)}}, api.ErrClash},
		{api.Bool{Kind: No, Var: 1}, api.ErrClash},
		{api.Bool{Kind: Yes, Var: greatest}, api.ErrClash},
		{v(3), api.ErrNot},
		{v(-1), api.ErrNot},
		{v(smallest), api.ErrNot},
		{v(greatest), api.ErrNot},
		// The first expression that is wrong decides: itself, then its Args with all that is in them.
		{of(Not, of(9), v(0)), api.ErrClash},
		{of(And, v(3), of(9)), api.ErrNot},
		{of(And, of(9), v(3)), api.ErrRange},
		{of(Or, of(Not, v(3)), of(Not)), api.ErrNot},
		{of(Or, of(Not, of(Xor, v(1), of(No, v(0)))), v(3)), api.ErrClash},
		{of(Xor, of(And, v(0), of(Not, of(0))), v(3)), api.ErrRange},
		{of(And, of(And, v(0), v(1)), of(And, v(2), v(3))), api.ErrNot},
	}
}

// P8.4: wrong expressions, in all functions, whatever else is wrong.
func TestWrongBools(t *testing.T) {
	for i, wrong := range wrongBools() {
		for _, state := range []int{0, -1, 8} {
			for _, f := range boolCalls(wrong.e, 3, state) {
				if got, e := f.do(); !isZero(got) || e != wrong.f {
					t.Error(i, f.name, got, e, wrong.f)
				}
			}
		}
		for _, vars := range []int{smallest, -1, 0, MaxVars + 1, 64, greatest} {
			for _, f := range boolCalls(wrong.e, vars, 0) {
				if got, e := f.do(); !isZero(got) || e != api.ErrRange {
					t.Error(i, f.name, vars, got, e)
				}
			}
		}
	}
}

// P8.4: right expressions, up to the size that is allowed, and all variables that there are.
func TestGood(t *testing.T) {
	for size := 1; size <= 4; size++ {
		for _, e := range expressions(size, 2) {
			if f := Good(e, 2); f != api.OK {
				t.Error(e, f)
			}
		}
	}
	s := from(7)
	for i := range 2000 {
		size, vars := 1+i%(MaxBool+2), 1+s.Intn(MaxVars)
		e := s.expression(size, vars)
		wanted := api.OK
		if sizeOf(e) > MaxBool {
			wanted = api.ErrMany
		}
		if f := Good(e, vars); f != wanted {
			t.Error(e, f)
		}
	}
	if f := Good(chain(v(7), MaxBool-1), 8); f != api.OK {
		t.Error(f)
	}
	for vars := 1; vars <= MaxVars; vars++ {
		for k := range MaxVars + 2 {
			wanted := api.OK
			if k >= vars {
				wanted = api.ErrNot
			}
			if f := Good(of(Not, v(k)), vars); f != wanted {
				t.Error(k, vars, f)
			}
		}
	}
}

// P8.4: the value of an expression on every input, and what is no input.
func TestEval(t *testing.T) {
	wantValues := func(e api.Bool, vars int) {
		t.Helper()
		for state := range 1 << vars {
			is, f := Eval(e, vars, state)
			want(t, e, is, f, valueOf(e, state) == 1, api.OK)
		}
		for _, state := range []int{smallest, -1, 1 << vars, 1<<vars + 1, 1 << 40, greatest} {
			is, f := Eval(e, vars, state)
			want(t, e, is, f, false, api.ErrRange)
		}
	}
	for size := 1; size <= 4; size++ {
		for _, e := range expressions(size, 2) {
			wantValues(e, 2)
		}
	}
	s := from(8)
	for i := range 300 {
		vars := 1 + i%MaxVars
		wantValues(s.expression(1+s.Intn(MaxBool), vars), vars)
	}
}

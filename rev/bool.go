package rev

import (
	"iter"

	"spoondrift/api"
)

// wants has, for each kind of expressions, how many Args it wants.
var wants = [...]int{
	Var: 0,
	Not: 1,
	And: 2,
	Xor: 2,
	Or:  2,
	No:  0,
	Yes: 0,
}

// inside yields an expression, and then its Args, in order, each with all that is in it.
func inside(e api.Bool) iter.Seq[api.Bool] {
	return func(yield func(api.Bool) bool) {
		var walk func(e api.Bool) bool
		walk = func(e api.Bool) bool {
			if !yield(e) {
				return false
			}
			for _, x := range e.Args {
				if !walk(x) {
					return false
				}
			}
			return true
		}
		walk(e)
	}
}

// Good returns the error of an expression. Args can share memory, even with the expression that they belong to, so
// that the size is counted only until it is too large.
func Good(e api.Bool, vars int) api.Errno {
	if vars < 1 || vars > MaxVars {
		return api.ErrRange
	}
	size := 0
	for range inside(e) {
		if size++; size > MaxBool {
			return api.ErrMany
		}
	}
	for x := range inside(e) {
		if f := goodAlone(x, vars); f != api.OK {
			return f
		}
	}
	return api.OK
}

// goodAlone returns the error that an expression has whatever its Args are.
func goodAlone(e api.Bool, vars int) api.Errno {
	if e.Kind < Var || e.Kind > Yes {
		return api.ErrRange
	}
	if len(e.Args) != wants[e.Kind] || e.Kind != Var && e.Var != 0 {
		return api.ErrClash
	}
	if !isBelow(e.Var, vars) {
		return api.ErrNot
	}
	return api.OK
}

// Eval returns the value of an expression.
func Eval(e api.Bool, vars, x int) (bool, api.Errno) {
	if f := Good(e, vars); f != api.OK {
		return false, f
	}
	if !isBelow(x, 1<<vars) {
		return false, api.ErrRange
	}
	return value(e, x), api.OK
}

// value returns the value of a right expression.
func value(e api.Bool, x int) bool {
	switch e.Kind {
	case Var:
		return has(x, e.Var)
	case Not:
		return !value(e.Args[0], x)
	case And:
		return value(e.Args[0], x) && value(e.Args[1], x)
	case Xor:
		return value(e.Args[0], x) != value(e.Args[1], x)
	case Or:
		return value(e.Args[0], x) || value(e.Args[1], x)
	}
	return e.Kind == Yes
}

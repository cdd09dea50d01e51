package rev

import "spoondrift/api"

// compiler is a circuit in the making: it has the wires that were used so far.
type compiler struct{ api.Circuit }

// turn puts a gate behind all others that turns a wire if all controls are 1.
func (c *compiler) turn(wire int, controls ...int) {
	c.Gates = append(c.Gates, turning(wire, controls...).given())
}

// add adds an expression to a wire; free is the first free wire.
func (c *compiler) add(e api.Bool, to, free int) {
	switch e.Kind {
	case Var:
		c.turn(to, e.Var)
	case Not:
		c.add(e.Args[0], to, free)
		c.turn(to)
	case And:
		c.addBoth(e.Args[0], e.Args[1], to, free)
	case Xor:
		c.add(e.Args[0], to, free)
		c.add(e.Args[1], to, free)
	case Or:
		c.addBoth(not(e.Args[0]), not(e.Args[1]), to, free)
		c.turn(to)
	case Yes:
		c.turn(to)
	}
}

// not returns Not of an expression.
func not(e api.Bool) api.Bool { return api.Bool{Kind: Not, Args: []api.Bool{e}} }

// addBoth adds And of two expressions to a wire.
func (c *compiler) addBoth(a, b api.Bool, to, free int) {
	from := len(c.Gates)
	wireOf := func(e api.Bool) int {
		if e.Kind == Var {
			return e.Var
		}
		wire := free
		free++
		c.Wires = max(c.Wires, free)
		c.add(e, wire, free)
		return wire
	}
	i := wireOf(a)
	k := wireOf(b)
	before := len(c.Gates)
	if i == k {
		c.turn(to, i)
	} else {
		c.turn(to, i, k)
	}
	c.back(from, before)
}

// back does the gates with the numbers from one to before another one once more, the last one first.
func (c *compiler) back(from, to int) {
	for i := to - 1; i >= from; i-- {
		c.Gates = append(c.Gates, gateOf(c.Gates[i]).given())
	}
}

// Compile returns the compiled circuit of an expression.
func Compile(e api.Bool, vars int) (api.Circuit, api.Errno) {
	if f := Good(e, vars); f != api.OK {
		return api.Circuit{}, f
	}
	c := compiler{api.Circuit{Wires: vars + 1}}
	c.add(e, vars, vars+1)
	if c.Wires > api.MaxWires {
		return api.Circuit{}, api.ErrFull
	}
	if len(c.Gates) > api.MaxGates {
		return api.Circuit{}, api.ErrMany
	}
	return c.Circuit, api.OK
}

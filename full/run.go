package full

import (
	"iter"
	"slices"

	"spoondrift/api"
	"spoondrift/circ"
)

// trail is outcomes that were found, and 0 behind them.
type trail [MaxOutcomes]int

// first returns the first n outcomes of a trail.
func (t trail) first(n int) trail {
	clear(t[n:])
	return t
}

// point is where a run is: the outcomes that were found, how many there are, the bits and the state.
type point struct {
	trail trail
	many  int
	bits  int
	state state
}

// found returns the points after the outcomes 0 and 1 of a wire, dead or not.
func (p point) found(wire int) [2]point {
	both := [2]point{p, p}
	for outcome := range both {
		q := &both[outcome]
		q.state = p.state.found(wire, outcome)
		q.trail[q.many] = outcome
		q.many++
	}
	return both
}

// branch returns the branch of a run that ends at the point.
func (p point) branch() Branch {
	return Branch{Outcomes: slices.Clone(p.trail[:p.many]), Bits: p.bits, State: slices.Clone(p.state)}
}

// run is a right circuit at work, which finds so many outcomes. It goes on at the points that follows allows.
type run struct {
	api.Circuit
	gates   []gate
	finds   int
	follows func(p point) bool
}

// runOf puts a right circuit to work.
func runOf(c api.Circuit, finds int) run {
	made := operators{}
	r := run{Circuit: c, finds: finds, follows: func(point) bool { return true }}
	for _, g := range c.Gates {
		r.gates = append(r.gates, made.gate(g))
	}
	return r
}

// runFrom puts a circuit to work that is run from a state.
func runFrom(c api.Circuit, v []api.Num) (run, state, api.Errno) {
	count, e := circ.Count(c)
	if e != api.OK {
		return run{}, nil, e
	}
	own, e := stateOf(v)
	if e != api.OK {
		return run{}, nil, e
	}
	if own.wires() != c.Wires {
		return run{}, nil, api.ErrClash
	}
	finds := count[api.Measure-1] + count[api.Reset-1]
	if finds > MaxOutcomes {
		return run{}, nil, api.ErrMany
	}
	return runOf(c, finds), own, api.OK
}

// branches yields the branches from a state that are not dead, in the order of their outcomes; behind an error
// nothing more.
func (r run) branches(v state) iter.Seq2[Branch, api.Errno] {
	return func(yield func(Branch, api.Errno) bool) {
		var walk func(p point, gates []gate) bool
		walk = func(p point, gates []gate) bool {
			if p.state.isDead() || !r.follows(p) {
				return true
			}
			if len(gates) == 0 {
				return yield(p.branch(), api.OK)
			}
			next, e := gates[0].next(p)
			if e != api.OK {
				yield(Branch{}, e)
				return false
			}
			for _, q := range next {
				if !walk(q, gates[1:]) {
					return false
				}
			}
			return true
		}
		walk(point{state: v}, r.gates)
	}
}

// Run returns the branches that are not dead, in the order of their outcomes.
func Run(c api.Circuit, v []api.Num) ([]Branch, api.Errno) {
	r, own, e := runFrom(c, v)
	if e != api.OK {
		return nil, e
	}
	var l []Branch
	for b, e := range r.branches(own) {
		if e != api.OK {
			return nil, e
		}
		l = append(l, b)
	}
	return l, api.OK
}

// Along returns the branch of some outcomes.
func Along(c api.Circuit, v []api.Num, outcomes []int) (Branch, api.Errno) {
	r, own, e := runFrom(c, v)
	if e != api.OK {
		return Branch{}, e
	}
	if len(outcomes) != r.finds {
		return Branch{}, api.ErrMany
	}
	if e := firstError(outcomes, checkOutcome); e != api.OK {
		return Branch{}, e
	}
	var wanted trail
	copy(wanted[:], outcomes)
	r.follows = func(p point) bool { return p.trail == wanted.first(p.many) }
	for b, e := range r.branches(own) {
		return b, e // no other one follows all outcomes
	}
	return Branch{}, api.ErrNone
}

// Bits returns for each number of bits the sum of the norms of the branches that end with it.
func Bits(c api.Circuit, v []api.Num) ([]api.Num, api.Errno) {
	r, own, e := runFrom(c, v)
	if e != api.OK {
		return nil, e
	}
	sums := make([]api.Num, 1<<c.Bits)
	for b, e := range r.branches(own) {
		if e != api.OK {
			return nil, e
		}
		norm, e := state(b.State).norm()
		if e != api.OK {
			return nil, e
		}
		if sums[b.Bits], e = total(sums[b.Bits], norm); e != api.OK {
			return nil, e
		}
	}
	return sums, api.OK
}

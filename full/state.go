package full

import (
	"math/bits"
	"slices"

	"spoondrift/api"
	"spoondrift/ring"
)

// state is the amplitudes of a state. One at work is right and in least form, and has memory of its own.
type state []api.Num

// stateOf puts a state to work; Check has the only errors, as the least form of a right number is right.
func stateOf(v []api.Num) (state, api.Errno) {
	if e := Check(v); e != api.OK {
		return nil, e
	}
	own := slices.Clone(v)
	for k, x := range own {
		own[k], _ = ring.Least(x)
	}
	return own, api.OK
}

// stateWith puts a state that has a wire to work.
func stateWith(v []api.Num, wire int) (state, api.Errno) {
	own, e := stateOf(v)
	if e != api.OK {
		return nil, e
	}
	if !isBelow(wire, own.wires()) {
		return nil, api.ErrNot
	}
	return own, api.OK
}

// basis returns the state of n wires in which the basis state k has the amplitude 1.
func basis(n, k int) state {
	v := make(state, 1<<n)
	v[k] = ring.Omega(0)
	return v
}

// wires returns how many wires a state has; -1 if it has no amplitudes.
func (v state) wires() int { return bits.Len(uint(len(v))) - 1 }

// isDead reports whether all amplitudes are 0.
func (v state) isDead() bool {
	return !slices.ContainsFunc(v, func(x api.Num) bool { return x != (api.Num{}) })
}

// found returns the state after an outcome of a wire was found.
func (v state) found(wire, outcome int) state {
	left := slices.Clone(v)
	for k := range left {
		if k>>wire&1 != outcome {
			left[k] = api.Num{}
		}
	}
	return left
}

// norm returns the sum of the norms of all amplitudes.
func (v state) norm() (api.Num, api.Errno) {
	norms := make([]api.Num, len(v))
	for k, x := range v {
		var e api.Errno
		if norms[k], e = ring.Norm(x); e != api.OK {
			return api.Num{}, e
		}
	}
	return total(norms...)
}

// total adds norms from the left to the right.
func total(norms ...api.Num) (api.Num, api.Errno) { return ring.Sum(norms) }

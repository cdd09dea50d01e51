package pebble

import (
	"iter"

	"spoondrift/api"
)

// set has, for each position, whether it belongs to it.
type set [1 << MaxNodes]bool

// setOf returns the set of some positions.
func setOf(l ...int) set {
	var s set
	for _, x := range l {
		s[x] = true
	}
	return s
}

// positions yields the positions of a set, rising.
func (s set) positions() iter.Seq[int] {
	return func(yield func(int) bool) {
		for x, is := range s {
			if is && !yield(x) {
				return
			}
		}
	}
}

// more returns a set with all positions to which games may go on from those that are there.
func (s search) more(there set) set {
	all := there
	for now := range there.positions() {
		for next := range s.steps(now) {
			all[next.to] = true
		}
	}
	return all
}

// Closed returns the positions that are reached with so many pebbles.
func Closed(d api.Dag, pebbles int) ([]int, api.Errno) {
	b, e := boardOf(d)
	if e != api.OK {
		return nil, e
	}
	if !isFrom(pebbles, 0, MaxNodes) {
		return nil, api.ErrRange
	}
	s := searchWith(b, pebbles)
	there := setOf(0)
	for all := s.more(there); all != there; all = s.more(there) {
		there = all
	}
	var l []int
	for x := range there.positions() {
		l = append(l, x)
	}
	return l, api.OK
}

// Shows reports whether positions show that so many pebbles do not do.
func Shows(d api.Dag, goals []int, pebbles int, positions []int) (bool, api.Errno) {
	b, end, e := boardWith(d, goals)
	if e != api.OK {
		return false, e
	}
	if !isFrom(pebbles, 0, MaxNodes) || !allBelow(positions, 1<<len(b.Needs)) {
		return false, api.ErrRange
	}
	there := setOf(positions...)
	isClosed := searchWith(b, pebbles).more(there) == there
	return rise(positions) && there[0] && !there[end] && isClosed, api.OK
}

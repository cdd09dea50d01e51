package bits

import (
	"math/bits"

	"spoondrift/api"
)

// Weight returns how many bits are 1.
func Weight(x int) (int, api.Errno) {
	if x < 0 {
		return 0, api.ErrRange
	}
	return weight(x), api.OK
}

// weight returns how many bits of a number that is not below 0 are 1.
func weight(x int) int { return bits.OnesCount(uint(x)) }

// odd reports whether the weight of x is odd.
func odd(x int) bool { return weight(x)%2 != 0 }

// Weights returns how many members have each weight.
func Weights(l []int, n int) ([]int, api.Errno) {
	if e := Check(l, n); e != api.OK {
		return nil, e
	}
	many := make([]int, n+1)
	for member := range systemOf(l, n).members() {
		many[weight(member)]++
	}
	return many, api.OK
}

// Coset returns the lightest member of a coset.
func Coset(l []int, n, row int) (int, api.Errno) {
	if e := checkWith(l, n, row); e != api.OK {
		return 0, e
	}
	best := row
	for member := range systemOf(l, n).members() {
		if x := sum(row, member); lighter(x, best) {
			best = x
		}
	}
	return best, api.OK
}

// lighter reports whether x has less weight than y, or the same weight and is less.
func lighter(x, y int) bool {
	if weight(x) != weight(y) {
		return weight(x) < weight(y)
	}
	return x < y
}

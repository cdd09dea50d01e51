package bits

import (
	"slices"

	"spoondrift/api"
)

// Rank returns how many reduced rows there are.
func Rank(l []int, n int) (int, api.Errno) {
	reduced, e := Reduce(l, n)
	return len(reduced), e
}

// Reduce returns the reduced rows.
func Reduce(l []int, n int) ([]int, api.Errno) {
	if e := Check(l, n); e != api.OK {
		return nil, e
	}
	return systemOf(l, n).reduced(), api.OK
}

// Same reports whether two lists have the same span.
func Same(a, b []int, n int) (bool, api.Errno) {
	if e := checkAll(rows{a, n}, rows{b, n}); e != api.OK {
		return false, e
	}
	return systemOf(a, n).leads() == systemOf(b, n).leads(), api.OK
}

// Member reports whether a row is in the span.
func Member(l []int, n, row int) (bool, api.Errno) {
	if e := checkWith(l, n, row); e != api.OK {
		return false, e
	}
	return systemOf(l, n).rest(made{row: row}).row == 0, api.OK
}

// Which returns which rows give a row. The least number has no row that is a sum of those before it, and without such
// rows there is one number only.
func Which(l []int, n, row int) (int, api.Errno) {
	if e := checkWith(l, n, row); e != api.OK {
		return 0, e
	}
	x := systemOf(l, n).rest(made{row: row})
	if x.row != 0 {
		return 0, api.ErrNone
	}
	return x.of, api.OK
}

// Null returns the reduced rows of all that is orthogonal.
func Null(l []int, n int) ([]int, api.Errno) {
	if e := Check(l, n); e != api.OK {
		return nil, e
	}
	return systemOf(l, n).null().reduced(), api.OK
}

// Meet returns the reduced rows of what both spans have: of what is orthogonal to all that is orthogonal to one of them.
func Meet(a, b []int, n int) ([]int, api.Errno) {
	if e := checkAll(rows{a, n}, rows{b, n}); e != api.OK {
		return nil, e
	}
	either := slices.Concat(systemOf(a, n).null().reduced(), systemOf(b, n).null().reduced())
	return systemOf(either, n).null().reduced(), api.OK
}

// Free returns the columns that are no lead.
func Free(l []int, n int) ([]int, api.Errno) {
	if e := Check(l, n); e != api.OK {
		return nil, e
	}
	var columns []int
	systemOf(l, n).each(table{lead: skip, free: func(k int) { columns = append(columns, k) }})
	return columns, api.OK
}

// Solve returns the least solution.
func Solve(l []int, n, b int) (int, api.Errno) {
	if e := Check(l, n); e != api.OK {
		return 0, e
	}
	if !isRow(b, len(l)) {
		return 0, api.ErrForm
	}
	s := systemOf(l, n)
	x := s.solution(b)
	if apply(s.list, x) != b {
		return 0, api.ErrNone
	}
	return s.null().rest(made{row: x}).row, api.OK
}

// solution returns the row that is 0 in all free columns and solves the reduced rows. If it does not solve all rows,
// nothing does: some rows have the sum 0, and b is 1 for an odd number of them.
func (s *system) solution(b int) int {
	x := 0
	s.each(table{lead: func(k int) {
		if odd(s.byLead[k].of & b) {
			x = sum(x, 1<<k)
		}
	}, free: skip})
	return x
}

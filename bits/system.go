package bits

import (
	"iter"
	"math/bits"
	"slices"
)

// made is a row with the numbers of the rows it is made of, which are bits, too.
type made struct{ row, of int }

// leads are the reduced rows of a span, each at the index of its lead; 0 is at the index of a free column.
type leads [MaxCols]int

// table says what is done with a column.
type table struct {
	lead func(k int) // the lead of a reduced row
	free func(k int) // all others
}

// system is rows at work. A row that is a sum of those before it is in no byLead[k].of.
type system struct {
	rows
	byLead [MaxCols]made // the reduced rows
	free   map[int]bool  // the columns that are no lead
}

// plus returns the sum of x and y.
func (x made) plus(y made) made {
	return made{sum(x.row, y.row), sum(x.of, y.of)}
}

// systemOf puts rows to work; there may be more than MaxRows.
func systemOf(l []int, n int) *system {
	s := &system{rows: rows{slices.Clone(l), n}, free: map[int]bool{}}
	bring := func(x made) {
	pivot:
		for k := n - 1; k >= 0; k-- {
			switch known := s.byLead[k]; {
			case has(x.row, k) && known == (made{}):
				s.byLead[k] = x
				break pivot
			case has(x.row, k):
				x = x.plus(known)
			}
		}
	}
	for i, row := range s.list {
		bring(made{row, 1 << i})
	}
	s.reduce()
	return s
}

// reduce takes the leads out of all other rows, and finds the columns that are free.
func (s *system) reduce() {
	rest := s.rest
	for k := range s.n {
		x := s.byLead[k]
		if x == (made{}) {
			s.free[k] = true
			continue
		}
		s.byLead[k] = made{} // or else rest would take x out of itself
		s.byLead[k] = rest(x)
	}
}

// rest adds rows to x until it has 1 in no lead. This is the least row of its coset: any other one differs from it by a
// member, so that the greatest column in which both differ is a lead, and there the other one has 1.
func (s *system) rest(x made) made {
	for k := s.n - 1; k >= 0; k-- {
		if has(x.row, k) {
			x = x.plus(s.byLead[k])
		}
	}
	return x
}

// each goes through the columns, rising.
func (s *system) each(do table) {
	for k := range s.n {
		if s.free[k] {
			do.free(k)
		} else {
			do.lead(k)
		}
	}
}

// skip does nothing with a column.
func skip(int) {}

// leads returns the reduced rows without what they are made of.
func (s *system) leads() leads {
	var l leads
	s.each(table{lead: func(k int) { l[k] = s.byLead[k].row }, free: skip})
	return l
}

// reduced returns the reduced rows.
func (s *system) reduced() []int {
	var l []int
	s.each(table{lead: func(k int) { l = append(l, s.byLead[k].row) }, free: skip})
	slices.Reverse(l)
	return l
}

// null returns the system of all that is orthogonal. A row that is orthogonal to the reduced ones may have anything in
// the free columns, and these tell what it has in each lead.
func (s *system) null() *system {
	l := s.leads()
	var orthogonal []int
	s.each(table{lead: skip, free: func(k int) {
		column := 1 << k
		orthogonal = append(orthogonal, sum(column, apply(l[:], column)))
	}})
	return systemOf(orthogonal, s.n)
}

// members yields all members of the span. From one to the next one, a single row comes or goes: as each row has a lead
// that no other row has, no member comes twice.
func (s *system) members() iter.Seq[int] {
	l := s.reduced()
	return func(yield func(int) bool) {
		member := 0
		for i := range 1 << len(l) {
			if i > 0 {
				member = sum(member, l[bits.TrailingZeros(uint(i))])
			}
			if !yield(member) {
				return
			}
		}
	}
}

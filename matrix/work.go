package matrix

import (
	"iter"
	"slices"

	"spoondrift/api"
	"spoondrift/ring"
)

// place is a row and a column. A size is how many there are of them.
type place [2]int

// across returns the place with row and column exchanged.
func (p place) across() place { return place{p[1], p[0]} }

// places yields all places of a matrix of this size, row by row.
func (size place) places() iter.Seq[place] {
	return func(yield func(place) bool) {
		for row := range size[0] {
			for column := range size[1] {
				if !yield(place{row, column}) {
					return
				}
			}
		}
	}
}

// grid is rows of numbers.
type grid struct{ rows [][]api.Num }

// work is a matrix at work: its rows are its own, and their numbers in least form.
type work struct {
	grid
	size place
}

// at returns the number at a place.
func (g grid) at(p place) api.Num { return g.rows[p[0]][p[1]] }

// conjugateAcross returns what the conjugate matrix with rows and columns exchanged has at a place.
func (g grid) conjugateAcross(p place) (api.Num, api.Errno) {
	return ring.Conj(g.at(p.across()))
}

// sameAs reports whether both have the same size and the same numbers.
func (m work) sameAs(n work) bool {
	return slices.EqualFunc(m.rows, n.rows, slices.Equal)
}

// isSquare reports whether there are as many rows as columns.
func (m work) isSquare() bool { return m.size == m.size.across() }

// workOf puts a matrix to work; Check has the only errors, as the least form of a right number is right.
func workOf(m [][]api.Num) (work, api.Errno) {
	if e := Check(m); e != api.OK {
		return work{}, e
	}
	rows := slices.Clone(m)
	for i, row := range rows {
		rows[i] = slices.Clone(row)
		for j, x := range row {
			rows[i][j], _ = ring.Least(x)
		}
	}
	return work{grid{rows}, place{len(m), len(m[0])}}, api.OK
}

// workOfTwo puts two matrices to work, the first one before the second one.
func workOfTwo(m, n [][]api.Num) (a, b work, e api.Errno) {
	if a, e = workOf(m); e != api.OK {
		return work{}, work{}, e
	}
	if b, e = workOf(n); e != api.OK {
		return work{}, work{}, e
	}
	return a, b, api.OK
}

// rowOf is the matrix that has a vector as its only row: it is right just if the vector is.
func rowOf(v []api.Num) [][]api.Num { return [][]api.Num{v} }

// recipe is the size of a matrix, and how each element is computed.
type recipe struct {
	size    place
	element func(p place) (api.Num, api.Errno)
}

// rows computes all elements, and ends with the first error.
func (r recipe) rows() ([][]api.Num, api.Errno) {
	rows := make([][]api.Num, r.size[0])
	for p := range r.size.places() {
		x, e := r.element(p)
		if e != api.OK {
			return nil, e
		}
		if p[1] == 0 {
			rows[p[0]] = make([]api.Num, r.size[1])
		}
		rows[p[0]][p[1]] = x
	}
	return rows, api.OK
}

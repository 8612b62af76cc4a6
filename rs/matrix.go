package rs

import (
	"slices"

	"stolon/api"
)

// Valid reports whether a matrix is valid.
func Valid(m api.Matrix) bool {
	return inRange(m.Rows) && inRange(m.Cols) && len(m.Cells) == m.Rows*m.Cols
}

// inRange reports whether a matrix may have n rows or columns.
func inRange(n int) bool { return 1 <= n && n <= api.MaxTotal }

// zeros returns the matrix of zeros with these numbers of rows and columns.
func zeros(rows, cols int) api.Matrix {
	return api.Matrix{Rows: rows, Cols: cols, Cells: make([]byte, rows*cols)}
}

// row returns the cells of a row of m, in the memory of m.
func row(m api.Matrix, r int) []byte { return m.Cells[r*m.Cols : (r+1)*m.Cols] }

// Identity returns the identity matrix of n rows.
func Identity(n int) (api.Matrix, api.Errno) {
	if !inRange(n) {
		return api.Matrix{}, api.ErrArg
	}
	m := zeros(n, n)
	for i := range n {
		row(m, i)[i] = 1
	}
	return m, api.OK
}

// Select returns the matrix of the given rows of m.
func Select(m api.Matrix, rows []int) (api.Matrix, api.Errno) {
	if !Valid(m) || !inRange(len(rows)) {
		return api.Matrix{}, api.ErrArg
	}
	out := zeros(len(rows), m.Cols)
	for i, r := range rows {
		if r < 0 || r >= m.Rows {
			return api.Matrix{}, api.ErrArg
		}
		copy(row(out, i), row(m, r))
	}
	return out, api.OK
}

// Product returns the product of two matrices.
func (f *Field) Product(a, b api.Matrix) (api.Matrix, api.Errno) {
	if f == nil {
		return api.Matrix{}, api.ErrNil
	}
	if !Valid(a) || !Valid(b) {
		return api.Matrix{}, api.ErrArg
	}
	if a.Cols != b.Rows {
		return api.Matrix{}, api.ErrShape
	}
	f.build()
	out := zeros(a.Rows, b.Cols)
	for r := range a.Rows {
		for i, factor := range row(a, r) {
			f.addScaled(row(out, r), row(b, i), factor)
		}
	}
	return out, api.OK
}

// addScaled adds factor times each byte of b to the byte of sum at the same position.
func (f *Field) addScaled(sum, b []byte, factor byte) {
	for i := range sum {
		sum[i] ^= f.mul(factor, b[i])
	}
}

// Inverse returns the inverse of a matrix.
func (f *Field) Inverse(m api.Matrix) (api.Matrix, api.Errno) {
	if f == nil {
		return api.Matrix{}, api.ErrNil
	}
	if !Valid(m) {
		return api.Matrix{}, api.ErrArg
	}
	if m.Rows != m.Cols {
		return api.Matrix{}, api.ErrShape
	}
	f.build()
	n := m.Rows
	// The steps that turn the left half into the identity turn the identity at the right into the inverse.
	both := zeros(n, 2*n)
	for i := range n {
		copy(row(both, i), row(m, i))
		row(both, i)[n+i] = 1
	}
	if f.reduce(both, n) < n {
		return api.Matrix{}, api.ErrSingular
	}
	out := zeros(n, n)
	for i := range n {
		copy(row(out, i), row(both, i)[n:])
	}
	return out, api.OK
}

// Rank returns the rank of a matrix.
func (f *Field) Rank(m api.Matrix) (int, api.Errno) {
	if f == nil {
		return 0, api.ErrNil
	}
	if !Valid(m) {
		return 0, api.ErrArg
	}
	f.build()
	work := api.Matrix{Rows: m.Rows, Cols: m.Cols, Cells: slices.Clone(m.Cells)}
	return f.reduce(work, m.Cols), api.OK
}

// reduce brings the first cols columns of m into reduced echelon form by steps on whole rows, and returns their rank.
func (f *Field) reduce(m api.Matrix, cols int) int {
	rank := 0
	for c := range cols {
		r := findPivot(m, rank, c)
		if r < 0 {
			continue
		}
		swap(row(m, rank), row(m, r))
		f.clearColumn(m, rank, c)
		rank++
	}
	return rank
}

// findPivot returns the first row, from the given one on, with an element other than 0 in column c, or -1.
func findPivot(m api.Matrix, from, c int) int {
	for r := from; r < m.Rows; r++ {
		if row(m, r)[c] != 0 {
			return r
		}
	}
	return -1
}

func swap(a, b []byte) {
	for i := range a {
		a[i], b[i] = b[i], a[i]
	}
}

// clearColumn makes the element of row r in column c 1, and those of the other rows in that column 0.
func (f *Field) clearColumn(m api.Matrix, r, c int) {
	pivot := row(m, r)
	scale := f.inverse(pivot[c])
	for i := range pivot {
		pivot[i] = f.mul(pivot[i], scale)
	}
	for i := range m.Rows {
		if i != r {
			f.addScaled(row(m, i), pivot, row(m, i)[c])
		}
	}
}

// Vandermonde returns the matrix of the powers of the row numbers.
func (f *Field) Vandermonde(rows, cols int) (api.Matrix, api.Errno) {
	if f == nil {
		return api.Matrix{}, api.ErrNil
	}
	if !inRange(rows) || !inRange(cols) {
		return api.Matrix{}, api.ErrArg
	}
	f.build()
	m := zeros(rows, cols)
	for r := range rows {
		for c := range cols {
			row(m, r)[c] = f.power(byte(r), c)
		}
	}
	return m, api.OK
}

// Generator returns the generator matrix of the code.
func (f *Field) Generator(k, total int) (api.Matrix, api.Errno) {
	if f == nil {
		return api.Matrix{}, api.ErrNil
	}
	if !validCode(k, total) {
		return api.Matrix{}, api.ErrArg
	}
	f.build()
	l := f.newLagrange(firstPlaces(k))
	m := zeros(total, k)
	for i := range total {
		copy(row(m, i), l.weights(byte(i)))
	}
	return m, api.OK
}

// firstPlaces returns the elements 0 to k - 1.
func firstPlaces(k int) []byte {
	places := make([]byte, k)
	for i := range k {
		places[i] = byte(i)
	}
	return places
}

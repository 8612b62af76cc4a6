package rs_test

import (
	"math"
	"slices"
	"testing"

	"stolon/api"
	"stolon/rs"
)

// invalidMatrices returns matrices that are not valid.
func invalidMatrices() []api.Matrix {
	return []api.Matrix{
		{},
		{Rows: 0, Cols: 1},
		{Rows: 1, Cols: 0},
		{Rows: -1, Cols: -1, Cells: []byte{1}},
		{Rows: 1, Cols: 2, Cells: []byte{1}},
		{Rows: 1, Cols: 2, Cells: []byte{1, 2, 3}},
		{Rows: 1, Cols: 1},
		{Rows: 256, Cols: 1, Cells: make([]byte, 256)},
		{Rows: 1, Cols: 256, Cells: make([]byte, 256)},
		{Rows: math.MaxInt, Cols: math.MaxInt, Cells: []byte{1}},
		{Rows: math.MinInt, Cols: math.MinInt},
		{Rows: 1 << 32, Cols: 1 << 32},
	}
}

// P1.6
func TestValid(t *testing.T) {
	for _, m := range invalidMatrices() {
		if rs.Valid(m) {
			t.Errorf("%d by %d with %d cells", m.Rows, m.Cols, len(m.Cells))
		}
	}
	for _, m := range []api.Matrix{matrix(1, 1, 0), matrix(2, 3, 1, 2, 3, 4, 5, 6)} {
		if !rs.Valid(m) {
			t.Errorf("%v", m)
		}
	}
	for _, n := range []int{1, 254, 255} {
		if !rs.Valid(matrix(n, 255, make([]byte, n*255)...)) || !rs.Valid(matrix(255, n, make([]byte, n*255)...)) {
			t.Errorf("%d and 255 rows and columns", n)
		}
	}
}

// P1.6
func TestIdentity(t *testing.T) {
	for n := 1; n <= 255; n++ {
		m, e := rs.Identity(n)
		if e != api.OK || m.Rows != n || m.Cols != n || len(m.Cells) != n*n {
			t.Fatalf("Identity(%d): %d by %d with %d cells, %v", n, m.Rows, m.Cols, len(m.Cells), e)
		}
		for i, c := range m.Cells {
			if (c == 1) != (i/n == i%n) || c > 1 {
				t.Fatalf("Identity(%d): %d at %d", n, c, i)
			}
		}
	}
	for _, n := range []int{0, -1, 256, math.MaxInt, math.MinInt} {
		if m, e := rs.Identity(n); e != api.ErrArg || !sameMatrix(m, api.Matrix{}) {
			t.Errorf("Identity(%d): %v", n, e)
		}
	}
}

// P1.6
func TestSelect(t *testing.T) {
	m := matrix(3, 2, 1, 2, 3, 4, 5, 6)
	for _, c := range []struct {
		rows []int
		want api.Matrix
	}{
		{[]int{0, 1, 2}, m},
		{[]int{2}, matrix(1, 2, 5, 6)},
		{[]int{1, 1, 0, 1}, matrix(4, 2, 3, 4, 3, 4, 1, 2, 3, 4)},
	} {
		if got, e := rs.Select(m, c.rows); e != api.OK || !sameMatrix(got, c.want) {
			t.Errorf("%v: %v, %v", c.rows, got, e)
		}
	}
	if got, e := rs.Select(m, make([]int, 255)); e != api.OK || got.Rows != 255 || !slices.Equal(got.Cells[508:], []byte{1, 2}) {
		t.Errorf("255 rows: %v, %v", got, e)
	}
}

// P1.6, R4
func TestSelectCopies(t *testing.T) {
	m := matrix(2, 2, 1, 2, 3, 4)
	rows := []int{0, 1}
	got, _ := rs.Select(m, rows)
	got.Cells[0] = 99
	if m.Cells[0] != 1 {
		t.Error("the result shares memory with the matrix")
	}
	m.Cells[3] = 98
	if got.Cells[3] != 4 || !slices.Equal(rows, []int{0, 1}) {
		t.Error("the matrix shares memory with the result, or the argument was changed")
	}
}

// P1.6
func TestSelectErrors(t *testing.T) {
	m := matrix(2, 2, 1, 2, 3, 4)
	for _, rows := range [][]int{nil, {}, {2}, {0, 1, 2}, {-1}, {0, math.MaxInt}, {math.MinInt}, make([]int, 256)} {
		if got, e := rs.Select(m, rows); e != api.ErrArg || !sameMatrix(got, api.Matrix{}) {
			t.Errorf("%v: %v, %v", rows, got, e)
		}
	}
	for _, bad := range invalidMatrices() {
		if got, e := rs.Select(bad, []int{0}); e != api.ErrArg || !sameMatrix(got, api.Matrix{}) {
			t.Errorf("%d by %d: %v, %v", bad.Rows, bad.Cols, got, e)
		}
	}
}

// P1.7
func TestProduct(t *testing.T) {
	f := rs.NewField()
	r := newRand()
	for _, c := range [][3]int{{1, 1, 1}, {2, 3, 4}, {4, 3, 2}, {1, 9, 1}, {9, 1, 9}, {20, 20, 20}, {255, 2, 255}, {2, 255, 3}} {
		a, b := randomMatrix(r, c[0], c[1]), randomMatrix(r, c[1], c[2])
		a1, b1 := slices.Clone(a.Cells), slices.Clone(b.Cells)
		if got, e := f.Product(a, b); e != api.OK || !sameMatrix(got, refProduct(a, b)) {
			t.Errorf("%v: %v, %v", c, got, e)
		}
		if !slices.Equal(a.Cells, a1) || !slices.Equal(b.Cells, b1) {
			t.Error("an argument was changed")
		}
	}
	got, e := f.Product(matrix(1, 2, 2, 1), matrix(2, 1, 128, 3))
	if e != api.OK || !sameMatrix(got, matrix(1, 1, 29^3)) {
		t.Errorf("[2 1] * [128; 3] = %v, %v", got, e)
	}
}

// P1.7, R4: a product with the identity is new memory too.
func TestProductCopies(t *testing.T) {
	f := rs.NewField()
	one, _ := rs.Identity(2)
	m := matrix(2, 2, 1, 2, 3, 4)
	got, _ := f.Product(one, m)
	got.Cells[0] = 99
	if m.Cells[0] != 1 || one.Cells[0] != 1 {
		t.Error("the result shares memory with an argument")
	}
}

// P1.7
func TestProductErrors(t *testing.T) {
	f := rs.NewField()
	m := matrix(2, 2, 1, 2, 3, 4)
	for _, other := range []api.Matrix{matrix(1, 2, 1, 2), matrix(3, 2, 1, 2, 3, 4, 5, 6)} {
		if got, e := f.Product(m, other); e != api.ErrShape || !sameMatrix(got, api.Matrix{}) {
			t.Errorf("%v: %v, %v", other, got, e)
		}
	}
	if got, e := f.Product(matrix(1, 3, 1, 2, 3), matrix(1, 3, 1, 2, 3)); e != api.ErrShape || got.Cells != nil {
		t.Errorf("1 by 3 twice: %v, %v", got, e)
	}
	// A matrix that is not valid comes before shapes that do not fit.
	for _, bad := range invalidMatrices() {
		for _, pair := range [][2]api.Matrix{{bad, m}, {m, bad}, {bad, bad}} {
			if got, e := f.Product(pair[0], pair[1]); e != api.ErrArg || !sameMatrix(got, api.Matrix{}) {
				t.Errorf("%d by %d: %v, %v", bad.Rows, bad.Cols, got, e)
			}
		}
	}
}

// P1.8
func TestInverseOfRandomMatrices(t *testing.T) {
	f := rs.NewField()
	r := newRand()
	for _, n := range []int{1, 2, 3, 5, 17, 60} {
		for range 5 {
			m := randomMatrix(r, n, n)
			before := slices.Clone(m.Cells)
			inverse, e := f.Inverse(m)
			if !slices.Equal(m.Cells, before) {
				t.Fatal("the argument was changed")
			}
			if rank, _ := f.Rank(m); (rank == n) != (e == api.OK) {
				t.Errorf("%d by %d: rank %d, but %v", n, n, rank, e)
			}
			if e != api.OK {
				continue
			}
			checkInverse(t, m, inverse)
		}
	}
}

func checkInverse(t *testing.T, m, inverse api.Matrix) {
	t.Helper()
	one, _ := rs.Identity(m.Rows)
	if !sameMatrix(refProduct(m, inverse), one) || !sameMatrix(refProduct(inverse, m), one) {
		t.Errorf("not the inverse of the %d by %d matrix", m.Rows, m.Cols)
	}
}

// P1.8: two by two, an inverse exists exactly if the determinant is not 0.
func TestInverseAndRankOfTwoByTwo(t *testing.T) {
	f := rs.NewField()
	elements := []byte{0, 1, 2, 3, 142, 255}
	for _, a := range elements {
		for _, b := range elements {
			for _, c := range elements {
				for _, d := range elements {
					checkTwoByTwo(t, f, matrix(2, 2, a, b, c, d))
				}
			}
		}
	}
}

func checkTwoByTwo(t *testing.T, f *rs.Field, m api.Matrix) {
	t.Helper()
	c := m.Cells
	want := 1
	if refMul(c[0], c[3]) != refMul(c[1], c[2]) {
		want = 2
	} else if slices.Equal(c, make([]byte, 4)) {
		want = 0
	}
	if rank, e := f.Rank(m); e != api.OK || rank != want {
		t.Errorf("Rank(%v) = %d, %v", c, rank, e)
	}
	inverse, e := f.Inverse(m)
	if want == 2 {
		checkInverse(t, m, inverse)
	} else if e != api.ErrSingular || !sameMatrix(inverse, api.Matrix{}) {
		t.Errorf("Inverse(%v) = %v, %v", c, inverse, e)
	}
}

// P1.8
func TestInverseExamples(t *testing.T) {
	f := rs.NewField()
	for _, m := range []api.Matrix{matrix(2, 2, 1, 1, 0, 1), matrix(2, 2, 0, 1, 1, 0), matrix(1, 1, 1)} {
		if got, e := f.Inverse(m); e != api.OK || !sameMatrix(got, m) {
			t.Errorf("the inverse of %v: %v, %v", m, got, e)
		}
	}
	for n := 1; n <= 255; n += 127 {
		one, _ := rs.Identity(n)
		if got, e := f.Inverse(one); e != api.OK || !sameMatrix(got, one) {
			t.Errorf("the inverse of the identity of %d rows: %v", n, e)
		}
	}
}

// P1.8
func TestInverseOfTheGreatestMatrix(t *testing.T) {
	f := rs.NewField()
	m, _ := f.Vandermonde(255, 255)
	inverse, e := f.Inverse(m)
	if e != api.OK {
		t.Fatal(e)
	}
	one, _ := rs.Identity(255)
	left, _ := f.Product(inverse, m)
	right, _ := f.Product(m, inverse)
	if !sameMatrix(left, one) || !sameMatrix(right, one) {
		t.Error("not the inverse")
	}
}

// P1.8
func TestInverseErrors(t *testing.T) {
	f := rs.NewField()
	for _, c := range []struct {
		m    api.Matrix
		want api.Errno
	}{
		{matrix(2, 2, 1, 2, 1, 2), api.ErrSingular},
		{matrix(1, 1, 0), api.ErrSingular},
		{matrix(3, 3, 1, 0, 0, 0, 1, 0, 1, 1, 0), api.ErrSingular},
		{matrix(3, 3, 0, 1, 2, 0, 3, 4, 0, 5, 6), api.ErrSingular},
		{matrix(1, 2, 1, 2), api.ErrShape},
		{matrix(2, 1, 1, 2), api.ErrShape},
		{matrix(2, 1, 0, 0), api.ErrShape},
	} {
		if got, e := f.Inverse(c.m); e != c.want || !sameMatrix(got, api.Matrix{}) {
			t.Errorf("%v: %v, %v", c.m, got, e)
		}
	}
	for _, bad := range invalidMatrices() {
		if got, e := f.Inverse(bad); e != api.ErrArg || !sameMatrix(got, api.Matrix{}) {
			t.Errorf("%d by %d: %v, %v", bad.Rows, bad.Cols, got, e)
		}
	}
}

// rankMatrix returns a matrix of the given rank: the product of a tall and a wide matrix, each of which contains the identity.
func rankMatrix(rows, cols, rank int) api.Matrix {
	r := newRand()
	tall, wide := randomMatrix(r, rows, rank), randomMatrix(r, rank, cols)
	tallAt, wideAt := r.Perm(rows), r.Perm(cols)
	for i := range rank {
		for j := range rank {
			one := byte(0)
			if i == j {
				one = 1
			}
			tall.Cells[tallAt[i]*rank+j] = one
			wide.Cells[i*cols+wideAt[j]] = one
		}
	}
	return refProduct(tall, wide)
}

// P1.9
func TestRank(t *testing.T) {
	f := rs.NewField()
	for _, c := range [][3]int{{1, 1, 1}, {4, 4, 1}, {4, 4, 2}, {4, 4, 3}, {4, 4, 4}, {3, 9, 2}, {9, 3, 2}, {9, 3, 3}, {3, 9, 3}, {40, 30, 17}, {255, 3, 3}, {3, 255, 2}} {
		m := rankMatrix(c[0], c[1], c[2])
		before := slices.Clone(m.Cells)
		if rank, e := f.Rank(m); e != api.OK || rank != c[2] {
			t.Errorf("%v: %d, %v", c, rank, e)
		}
		if !slices.Equal(m.Cells, before) {
			t.Error("the argument was changed")
		}
	}
}

// P1.9
func TestRankExamplesAndErrors(t *testing.T) {
	f := rs.NewField()
	for _, c := range []struct {
		m    api.Matrix
		want int
	}{
		{matrix(2, 2, 1, 2, 1, 2), 1},
		{matrix(1, 1, 0), 0},
		{matrix(3, 2, 0, 0, 0, 0, 0, 0), 0},
		{matrix(2, 3, 0, 0, 5, 0, 0, 7), 1},
		{matrix(2, 3, 0, 0, 5, 0, 1, 7), 2},
		{matrix(3, 1, 0, 0, 9), 1},
	} {
		if rank, e := f.Rank(c.m); e != api.OK || rank != c.want {
			t.Errorf("%v: %d, %v", c.m, rank, e)
		}
	}
	for _, bad := range invalidMatrices() {
		if rank, e := f.Rank(bad); e != api.ErrArg || rank != 0 {
			t.Errorf("%d by %d: %d, %v", bad.Rows, bad.Cols, rank, e)
		}
	}
}

// P1.10
func TestVandermonde(t *testing.T) {
	f := rs.NewField()
	for _, c := range [][2]int{{1, 1}, {3, 3}, {1, 255}, {255, 1}, {20, 7}, {255, 255}} {
		m, e := f.Vandermonde(c[0], c[1])
		if e != api.OK || m.Rows != c[0] || m.Cols != c[1] || len(m.Cells) != c[0]*c[1] {
			t.Fatalf("%v: %d by %d with %d cells, %v", c, m.Rows, m.Cols, len(m.Cells), e)
		}
		for r := range c[0] {
			want := byte(1)
			for i, got := range m.Cells[r*c[1] : (r+1)*c[1]] {
				if got != want {
					t.Fatalf("%v: %d in row %d and column %d, not %d", c, got, r, i, want)
				}
				want = refMul(want, byte(r))
			}
		}
	}
	for _, c := range [][2]int{{0, 1}, {1, 0}, {-1, 1}, {1, -1}, {256, 1}, {1, 256}, {math.MaxInt, math.MaxInt}, {math.MinInt, 1}} {
		if m, e := f.Vandermonde(c[0], c[1]); e != api.ErrArg || !sameMatrix(m, api.Matrix{}) {
			t.Errorf("%v: %v", c, e)
		}
	}
}

// P1.11
func TestGeneratorFollowsTheDefinition(t *testing.T) {
	for _, c := range [][2]int{{1, 1}, {1, 3}, {2, 3}, {3, 3}, {3, 7}, {5, 16}, {16, 16}, {10, 40}} {
		k, total := c[0], c[1]
		m := mustGenerator(t, k, total)
		if m.Rows != total || m.Cols != k || len(m.Cells) != total*k {
			t.Fatalf("%v: %d by %d with %d cells", c, m.Rows, m.Cols, len(m.Cells))
		}
		for j := range k {
			points := make([]api.Point, k)
			for i := range k {
				points[i].X = byte(i)
			}
			points[j].Y = 1
			for i := range total {
				if got, want := m.Cells[i*k+j], refThrough(points, byte(i)); got != want {
					t.Errorf("%v: %d in row %d and column %d, not %d", c, got, i, j, want)
				}
			}
		}
	}
}

// P1.11
func TestGeneratorExamplesAndGreatOnes(t *testing.T) {
	f := rs.NewField()
	if g := mustGenerator(t, 1, 3); !sameMatrix(g, matrix(3, 1, 1, 1, 1)) {
		t.Errorf("Generator(1, 3) = %v", g)
	}
	if g := mustGenerator(t, 2, 3); !sameMatrix(g, matrix(3, 2, 1, 0, 0, 1, 3, 2)) {
		t.Errorf("Generator(2, 3) = %v", g)
	}
	one, _ := rs.Identity(255)
	if g := mustGenerator(t, 255, 255); !sameMatrix(g, one) {
		t.Error("Generator(255, 255) is not the identity")
	}
	// A generator is the Vandermonde matrix times the inverse of its first k rows.
	for _, k := range []int{1, 100, 254} {
		v, _ := f.Vandermonde(255, k)
		first, _ := f.Vandermonde(k, k)
		inverse, _ := f.Inverse(first)
		want, _ := f.Product(v, inverse)
		if !sameMatrix(mustGenerator(t, k, 255), want) {
			t.Errorf("Generator(%d, 255)", k)
		}
	}
}

// P1.11
func TestGeneratorErrors(t *testing.T) {
	f := rs.NewField()
	for _, c := range [][2]int{{0, 0}, {0, 3}, {-1, 3}, {4, 3}, {1, 256}, {256, 256}, {1, 0}, {1, -1}, {math.MinInt, math.MaxInt}, {math.MaxInt, math.MaxInt}, {1, math.MaxInt}} {
		if m, e := f.Generator(c[0], c[1]); e != api.ErrArg || !sameMatrix(m, api.Matrix{}) {
			t.Errorf("Generator(%d, %d): %v", c[0], c[1], e)
		}
	}
}

// The section What follows: any k rows of these matrices have an inverse.
func TestAnyRowsHaveAnInverse(t *testing.T) {
	f := rs.NewField()
	for k := 1; k <= 4; k++ {
		v, _ := f.Vandermonde(7, k)
		for _, m := range []api.Matrix{v, mustGenerator(t, k, 7)} {
			subsets(7, k, func(rows []int) {
				part, _ := rs.Select(m, rows)
				if _, e := f.Inverse(part); e != api.OK {
					t.Errorf("the rows %v of %v: %v", rows, m, e)
				}
			})
		}
	}
}

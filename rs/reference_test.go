package rs_test

import (
	"math/rand/v2"
	"slices"
	"testing"

	"stolon/api"
	"stolon/rs"
)

// The functions here follow the words of the chapter directly, without tables and without the program.

// refMul multiplies two polynomials over GF(2) and takes the remainder modulo 0x11D.
func refMul(a, b byte) byte {
	product := 0
	for i := range 8 {
		if b>>i&1 == 1 {
			product ^= int(a) << i
		}
	}
	for i := 15; i >= 8; i-- {
		if product>>i&1 == 1 {
			product ^= 0x11D << (i - 8)
		}
	}
	return byte(product)
}

// refPow multiplies e factors a.
func refPow(a byte, e int) byte {
	product := byte(1)
	for range e {
		product = refMul(product, a)
	}
	return product
}

// refInv searches for the inverse.
func refInv(a byte) byte {
	for b := range 256 {
		if refMul(a, byte(b)) == 1 {
			return byte(b)
		}
	}
	return 0
}

// refEval adds the terms of a polynomial.
func refEval(coefs []byte, x byte) byte {
	sum, power := byte(0), byte(1)
	for _, c := range coefs {
		sum ^= refMul(c, power)
		power = refMul(power, x)
	}
	return sum
}

// refThrough returns the value at x of the polynomial of least degree through the points, by Lagrange's formula.
func refThrough(points []api.Point, x byte) byte {
	sum := byte(0)
	for i, p := range points {
		above, below := p.Y, byte(1)
		for j, q := range points {
			if i != j {
				above = refMul(above, x^q.X)
				below = refMul(below, p.X^q.X)
			}
		}
		sum ^= refMul(above, refInv(below))
	}
	return sum
}

// refProduct multiplies two matrices whose shapes fit.
func refProduct(a, b api.Matrix) api.Matrix {
	out := api.Matrix{Rows: a.Rows, Cols: b.Cols, Cells: make([]byte, a.Rows*b.Cols)}
	for r := range a.Rows {
		for c := range b.Cols {
			for i := range a.Cols {
				out.Cells[r*b.Cols+c] ^= refMul(a.Cells[r*a.Cols+i], b.Cells[i*b.Cols+c])
			}
		}
	}
	return out
}

// refPiece returns the bytes of piece i of an object.
func refPiece(k int, data []byte, i int) []byte {
	l := (len(data) + k - 1) / k
	extended := append(slices.Clone(data), make([]byte, k*l-len(data))...)
	out := make([]byte, l)
	for c := range l {
		points := make([]api.Point, k)
		for j := range k {
			points[j] = api.Point{X: byte(j), Y: extended[j*l+c]}
		}
		out[c] = refThrough(points, byte(i))
	}
	return out
}

func newRand() *rand.Rand { return rand.New(rand.NewPCG(11, 29)) }

func randomBytes(r *rand.Rand, n int) []byte {
	b := make([]byte, n)
	for i := range b {
		b[i] = byte(r.UintN(256))
	}
	return b
}

func randomMatrix(r *rand.Rand, rows, cols int) api.Matrix {
	return api.Matrix{Rows: rows, Cols: cols, Cells: randomBytes(r, rows*cols)}
}

func matrix(rows, cols int, cells ...byte) api.Matrix {
	return api.Matrix{Rows: rows, Cols: cols, Cells: cells}
}

func sameMatrix(a, b api.Matrix) bool {
	return a.Rows == b.Rows && a.Cols == b.Cols && slices.Equal(a.Cells, b.Cells)
}

func samePiece(a, b api.Piece) bool { return a.Index == b.Index && slices.Equal(a.Data, b.Data) }

func clonePieces(pieces []api.Piece) []api.Piece {
	out := slices.Clone(pieces)
	for i := range out {
		out[i].Data = slices.Clone(out[i].Data)
	}
	return out
}

// choose returns the pieces with these numbers, in this order.
func choose(pieces []api.Piece, numbers ...int) []api.Piece {
	var out []api.Piece
	for _, n := range numbers {
		out = append(out, pieces[n])
	}
	return out
}

// mustEncode returns the pieces of an object whose encoding must succeed.
func mustEncode(t *testing.T, k, total int, data []byte) []api.Piece {
	t.Helper()
	p, e := rs.NewField().Encode(k, total, data)
	if e != api.OK {
		t.Fatalf("Encode(%d, %d, %d bytes): %v", k, total, len(data), e)
	}
	return p
}

func mustGenerator(t *testing.T, k, total int) api.Matrix {
	t.Helper()
	g, e := rs.NewField().Generator(k, total)
	if e != api.OK {
		t.Fatalf("Generator(%d, %d): %v", k, total, e)
	}
	return g
}

// subsets calls visit with every list of k different numbers below n, in ascending order.
func subsets(n, k int, visit func([]int)) {
	var extend func(chosen []int, from int)
	extend = func(chosen []int, from int) {
		if len(chosen) == k {
			visit(slices.Clone(chosen))
			return
		}
		for i := from; i < n; i++ {
			extend(append(chosen, i), i+1)
		}
	}
	extend(nil, 0)
}

package rs_test

import (
	"math"
	"testing"

	"stolon/api"
	"stolon/rs"
)

// P1.1
func TestAddAndMulOfAllElements(t *testing.T) {
	f := rs.NewField()
	for a := range 256 {
		for b := range 256 {
			x, y := byte(a), byte(b)
			if got := rs.Add(x, y); got != x^y {
				t.Fatalf("Add(%d, %d) = %d", x, y, got)
			}
			if got, want := f.Mul(x, y), refMul(x, y); got != want {
				t.Fatalf("Mul(%d, %d) = %d, not %d", x, y, got, want)
			}
		}
	}
}

// P1.1
func TestMulExamples(t *testing.T) {
	f := rs.NewField()
	if got := f.Mul(2, 128); got != 29 {
		t.Errorf("Mul(2, 128) = %d", got)
	}
	if got := f.Mul(2, 142); got != 1 {
		t.Errorf("Mul(2, 142) = %d", got)
	}
}

// P1.2
func TestInvOfAllElements(t *testing.T) {
	f := rs.NewField()
	for a := 1; a < 256; a++ {
		i, e := f.Inv(byte(a))
		if e != api.OK || refMul(byte(a), i) != 1 {
			t.Errorf("Inv(%d) = %d, %v", a, i, e)
		}
	}
	if i, e := f.Inv(2); i != 142 || e != api.OK {
		t.Errorf("Inv(2) = %d, %v", i, e)
	}
	if i, e := f.Inv(0); i != 0 || e != api.ErrArg {
		t.Errorf("Inv(0) = %d, %v", i, e)
	}
}

// P1.2
func TestDivOfAllElements(t *testing.T) {
	f := rs.NewField()
	for a := range 256 {
		for b := 1; b < 256; b++ {
			q, e := f.Div(byte(a), byte(b))
			if e != api.OK || refMul(q, byte(b)) != byte(a) {
				t.Fatalf("Div(%d, %d) = %d, %v", a, b, q, e)
			}
		}
		if q, e := f.Div(byte(a), 0); q != 0 || e != api.ErrArg {
			t.Errorf("Div(%d, 0) = %d, %v", a, q, e)
		}
	}
}

// P1.3
func TestPowOfAllElements(t *testing.T) {
	f := rs.NewField()
	for a := range 256 {
		want := byte(1)
		for e := range 520 {
			if got := f.Pow(byte(a), e); got != want {
				t.Fatalf("Pow(%d, %d) = %d, not %d", a, e, got, want)
			}
			want = refMul(want, byte(a))
		}
		for _, e := range []int{-1, -5, -255, -256, math.MinInt} {
			if got := f.Pow(byte(a), e); got != 1 {
				t.Errorf("Pow(%d, %d) = %d", a, e, got)
			}
		}
	}
}

// P1.3
func TestPowOfGreatExponents(t *testing.T) {
	f := rs.NewField()
	for a := range 256 {
		for _, e := range []int{math.MaxInt, math.MaxInt - 1, math.MaxInt32, 1 << 40} {
			// The order of each element other than 0 divides 255.
			want := refPow(byte(a), e%255+255)
			if got := f.Pow(byte(a), e); got != want {
				t.Errorf("Pow(%d, %d) = %d, not %d", a, e, got, want)
			}
		}
	}
}

// P1.3
func TestPowExamples(t *testing.T) {
	f := rs.NewField()
	for _, c := range []struct {
		a    byte
		e    int
		want byte
	}{{2, 8, 29}, {2, 255, 1}, {0, 0, 1}, {0, 3, 0}, {0, -1, 1}, {7, -5, 1}} {
		if got := f.Pow(c.a, c.e); got != c.want {
			t.Errorf("Pow(%d, %d) = %d, not %d", c.a, c.e, got, c.want)
		}
	}
}

// The section Types: a new Field is as good as one of NewField, whichever method is called first.
func TestNewFieldAndZeroField(t *testing.T) {
	calls := map[string]func(f *rs.Field) bool{
		"Mul": func(f *rs.Field) bool { return f.Mul(2, 128) == 29 },
		"Inv": func(f *rs.Field) bool { i, e := f.Inv(2); return i == 142 && e == api.OK },
		"Div": func(f *rs.Field) bool { q, e := f.Div(29, 128); return q == 2 && e == api.OK },
		"Pow": func(f *rs.Field) bool { return f.Pow(2, 8) == 29 },
		"Eval": func(f *rs.Field) bool {
			return f.Eval([]byte{5, 3}, 2) == 3
		},
		"Interpolate": func(f *rs.Field) bool {
			c, e := f.Interpolate([]api.Point{{X: 2, Y: 6}, {X: 4, Y: 12}})
			return string(c) == "\x00\x03" && e == api.OK
		},
		"Product": func(f *rs.Field) bool {
			m, e := f.Product(matrix(1, 1, 2), matrix(1, 1, 128))
			return sameMatrix(m, matrix(1, 1, 29)) && e == api.OK
		},
		"Inverse": func(f *rs.Field) bool {
			m, e := f.Inverse(matrix(1, 1, 2))
			return sameMatrix(m, matrix(1, 1, 142)) && e == api.OK
		},
		"Rank": func(f *rs.Field) bool {
			n, e := f.Rank(matrix(2, 2, 1, 2, 2, 4))
			return n == 1 && e == api.OK
		},
		"Vandermonde": func(f *rs.Field) bool {
			m, e := f.Vandermonde(3, 2)
			return sameMatrix(m, matrix(3, 2, 1, 0, 1, 1, 1, 2)) && e == api.OK
		},
		"Generator": func(f *rs.Field) bool {
			m, e := f.Generator(2, 3)
			return sameMatrix(m, matrix(3, 2, 1, 0, 0, 1, 3, 2)) && e == api.OK
		},
		"Encode": func(f *rs.Field) bool {
			p, e := f.Encode(2, 3, []byte{16, 32, 48})
			return e == api.OK && string(p[2].Data) == "\x50\x60"
		},
		"Decode": func(f *rs.Field) bool {
			d, e := f.Decode(2, 3, 3, examplePieces(2, 0))
			return e == api.OK && string(d) == "\x10\x20\x30"
		},
		"Rebuild": func(f *rs.Field) bool {
			p, e := f.Rebuild(2, 3, examplePieces(2, 0), 1)
			return e == api.OK && string(p.Data) == "\x30\x00"
		},
		"Consistent": func(f *rs.Field) bool {
			ok, e := f.Consistent(2, 3, examplePieces(2, 0, 1))
			return e == api.OK && ok
		},
	}
	for name, call := range calls {
		if !call(new(rs.Field)) {
			t.Errorf("%s of a new Field", name)
		}
		if f := rs.NewField(); !call(f) || !call(f) {
			t.Errorf("%s of NewField", name)
		}
	}
}

// The section Types, and R3: a nil Field returns zero values, with ErrNil where there is an error, whatever else is wrong.
func TestNilField(t *testing.T) {
	var f *rs.Field
	if f.Mul(1, 1) != 0 || f.Pow(3, 0) != 0 || f.Pow(3, 4) != 0 || f.Eval([]byte{5}, 1) != 0 {
		t.Error("a result without an error is not zero")
	}
	check := func(name string, zero bool, e api.Errno) {
		if !zero || e != api.ErrNil {
			t.Errorf("%s of a nil Field: zero %v, error %v", name, zero, e)
		}
	}
	for _, a := range []byte{0, 1} {
		b, e := f.Inv(a)
		check("Inv", b == 0, e)
		b, e = f.Div(1, a)
		check("Div", b == 0, e)
	}
	for _, points := range [][]api.Point{nil, {{X: 1, Y: 2}}} {
		c, e := f.Interpolate(points)
		check("Interpolate", len(c) == 0, e)
	}
	for _, m := range []api.Matrix{{}, matrix(1, 1, 1)} {
		p, e := f.Product(m, m)
		check("Product", sameMatrix(p, api.Matrix{}), e)
		p, e = f.Inverse(m)
		check("Inverse", sameMatrix(p, api.Matrix{}), e)
		n, e := f.Rank(m)
		check("Rank", n == 0, e)
	}
	for _, k := range []int{0, 2} {
		m, e := f.Vandermonde(k, 3)
		check("Vandermonde", sameMatrix(m, api.Matrix{}), e)
		m, e = f.Generator(k, 3)
		check("Generator", sameMatrix(m, api.Matrix{}), e)
		p, e := f.Encode(k, 3, []byte{1})
		check("Encode", len(p) == 0, e)
		d, e := f.Decode(k, 3, 3, examplePieces(0, 1))
		check("Decode", len(d) == 0, e)
		q, e := f.Rebuild(k, 3, examplePieces(0, 1), 2)
		check("Rebuild", samePiece(q, api.Piece{}), e)
		ok, e := f.Consistent(k, 3, examplePieces(0, 1))
		check("Consistent", !ok, e)
	}
}

// P2: a result does not depend on what else the Field has computed.
func TestFieldKeepsNothing(t *testing.T) {
	used := rs.NewField()
	r := newRand()
	for range 20 {
		k := 1 + r.IntN(6)
		data := randomBytes(r, r.IntN(40))
		a, e1 := used.Encode(k, 9, data)
		b, e2 := rs.NewField().Encode(k, 9, data)
		if e1 != api.OK || e2 != api.OK {
			t.Fatal("Encode", e1, e2)
		}
		for i := range a {
			if !samePiece(a[i], b[i]) {
				t.Errorf("piece %d of %v differs", i, data)
			}
		}
	}
}

package rs_test

import (
	"slices"
	"testing"

	"stolon/api"
	"stolon/rs"
)

// P1.4
func TestEval(t *testing.T) {
	f := rs.NewField()
	if got := f.Eval([]byte{5, 3}, 2); got != 3 {
		t.Errorf("Eval([5, 3], 2) = %d", got)
	}
	r := newRand()
	for _, n := range []int{1, 2, 3, 10, 255, 256, 300} {
		coefs := randomBytes(r, n)
		before := slices.Clone(coefs)
		for x := range 256 {
			if got, want := f.Eval(coefs, byte(x)), refEval(coefs, byte(x)); got != want {
				t.Errorf("Eval of %d coefficients at %d = %d, not %d", n, x, got, want)
			}
		}
		if !slices.Equal(coefs, before) {
			t.Error("the argument was changed")
		}
	}
}

// P1.4
func TestEvalWithoutCoefficientsAndAtZero(t *testing.T) {
	f := rs.NewField()
	for x := range 256 {
		if f.Eval(nil, byte(x)) != 0 || f.Eval([]byte{}, byte(x)) != 0 {
			t.Errorf("no coefficients at %d", x)
		}
	}
	if got := f.Eval([]byte{7, 8, 9}, 0); got != 7 {
		t.Errorf("at 0: %d", got)
	}
}

// randomPoints returns n points with different X, in a random order.
func randomPoints(n int) []api.Point {
	r := newRand()
	points := make([]api.Point, n)
	for i, x := range r.Perm(256)[:n] {
		points[i] = api.Point{X: byte(x), Y: byte(r.UintN(256))}
	}
	return points
}

// P1.5
func TestInterpolatePassesThroughThePoints(t *testing.T) {
	f := rs.NewField()
	for _, n := range []int{1, 2, 3, 7, 100, 255, 256} {
		points := randomPoints(n)
		before := slices.Clone(points)
		coefs, e := f.Interpolate(points)
		if e != api.OK || len(coefs) != n {
			t.Fatalf("%d points: %d coefficients, %v", n, len(coefs), e)
		}
		for _, p := range points {
			if got := refEval(coefs, p.X); got != p.Y {
				t.Errorf("%d points: %d at %d, not %d", n, got, p.X, p.Y)
			}
		}
		if !slices.Equal(points, before) {
			t.Error("the argument was changed")
		}
	}
}

// P1.5: there is exactly one such polynomial, so that a polynomial is found again, its zeros at the end included.
func TestInterpolateFindsThePolynomial(t *testing.T) {
	f := rs.NewField()
	for _, want := range [][]byte{{9}, {0}, {5, 0, 0}, {0, 0, 0, 0}, {1, 2, 3, 4, 0}, {0, 0, 0, 1}} {
		points := randomPoints(len(want))
		for i := range points {
			points[i].Y = refEval(want, points[i].X)
		}
		if got, e := f.Interpolate(points); e != api.OK || !slices.Equal(got, want) {
			t.Errorf("%v: %v, %v", want, got, e)
		}
	}
	got, e := f.Interpolate([]api.Point{{X: 0, Y: 5}, {X: 1, Y: 6}})
	if e != api.OK || !slices.Equal(got, []byte{5, 3}) {
		t.Errorf("the example: %v, %v", got, e)
	}
}

// P1.5
func TestInterpolateErrors(t *testing.T) {
	f := rs.NewField()
	all := randomPoints(256)
	twice := slices.Clone(all)
	twice[255].X = twice[0].X
	for _, c := range []struct {
		name   string
		points []api.Point
		want   api.Errno
	}{
		{"nil", nil, api.ErrArg},
		{"empty", []api.Point{}, api.ErrArg},
		{"257 points, of which two must have one X", append(slices.Clone(all), all[3]), api.ErrArg},
		{"1000 points", make([]api.Point, 1000), api.ErrArg},
		{"the same point twice", []api.Point{{X: 1, Y: 6}, {X: 1, Y: 6}}, api.ErrTwice},
		{"one X with two Y", []api.Point{{X: 0, Y: 6}, {X: 1, Y: 6}, {X: 0, Y: 7}}, api.ErrTwice},
		{"the last of 256", twice, api.ErrTwice},
	} {
		if got, e := f.Interpolate(c.points); e != c.want || len(got) != 0 {
			t.Errorf("%s: %v, %v", c.name, got, e)
		}
	}
}

package rs

import (
	"bytes"

	"stolon/api"
)

// Eval returns the value of a polynomial at x.
func (f *Field) Eval(coefs []byte, x byte) byte {
	if f == nil {
		return 0
	}
	f.build()
	value := byte(0)
	for i := range coefs {
		value = f.mul(value, x) ^ coefs[len(coefs)-1-i]
	}
	return value
}

// Interpolate returns the coefficients of the polynomial through the points.
func (f *Field) Interpolate(points []api.Point) ([]byte, api.Errno) {
	if f == nil {
		return nil, api.ErrNil
	}
	if e := checkPoints(points); e != api.OK {
		return nil, e
	}
	f.build()
	places := make([]byte, len(points))
	for i, p := range points {
		places[i] = p.X
	}
	zero := f.vanishing(places)
	l := f.newLagrange(places)
	coefs := make([]byte, len(points))
	for i, p := range points {
		f.addQuotient(coefs, zero, p.X, f.mul(p.Y, l.scales[i]))
	}
	return coefs, api.OK
}

func checkPoints(points []api.Point) api.Errno {
	if len(points) == 0 || len(points) > 256 {
		return api.ErrArg
	}
	var seen [256]bool
	for _, p := range points {
		if seen[p.X] {
			return api.ErrTwice
		}
		seen[p.X] = true
	}
	return api.OK
}

// vanishing returns the coefficients of the product of x - p for all the places p.
func (f *Field) vanishing(places []byte) []byte {
	coefs := make([]byte, 1, len(places)+1)
	coefs[0] = 1
	for _, p := range places {
		coefs = append(coefs, 0)
		for i := len(coefs) - 1; i > 0; i-- {
			coefs[i] = coefs[i-1] ^ f.mul(p, coefs[i])
		}
		coefs[0] = f.mul(p, coefs[0])
	}
	return coefs
}

// addQuotient adds scale times the quotient of a polynomial and x - root to sum, where root is a zero of the polynomial.
func (f *Field) addQuotient(sum, polynomial []byte, root, scale byte) {
	coef := byte(0)
	for i := len(sum) - 1; i >= 0; i-- {
		coef = polynomial[i+1] ^ f.mul(coef, root)
		sum[i] ^= f.mul(scale, coef)
	}
}

// lagrange tells how the values of a polynomial at some places determine its values elsewhere.
type lagrange struct {
	field  *Field
	places []byte // all different
	scales []byte // for each place p, the inverse of the product of p - q for all other places q
}

func (f *Field) newLagrange(places []byte) lagrange {
	scales := make([]byte, len(places))
	for i, p := range places {
		product := byte(1)
		for j, q := range places {
			if i != j {
				product = f.mul(product, p^q)
			}
		}
		scales[i] = f.inverse(product)
	}
	return lagrange{f, places, scales}
}

// weights returns the factor of the value at each place in the value at x of a polynomial with fewer coefficients than there are places, or as many.
func (l lagrange) weights(x byte) []byte {
	f := l.field
	out := make([]byte, len(l.places))
	if i := bytes.IndexByte(l.places, x); i >= 0 {
		out[i] = 1
		return out
	}
	product := byte(1)
	for _, p := range l.places {
		product = f.mul(product, x^p)
	}
	for i, p := range l.places {
		out[i] = f.mul(f.mul(product, f.inverse(x^p)), l.scales[i])
	}
	return out
}

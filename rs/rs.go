// Package rs implements arithmetic in the field GF(256), matrices over it, and a systematic Reed-Solomon code: chapter 1 of the document.
package rs

import (
	"sync"

	"stolon/api"
)

// order is the number of elements other than 0; the element 2 generates them all.
const order = 255

// reduction is what x^8 is replaced by: the low byte of 0x11D.
const reduction = 0x1D

// Field is the arithmetic of GF(256) modulo 0x11D. A new Field is ready for use.
type Field struct {
	once sync.Once
	exp  [2 * order]byte // the powers of 2, twice, so that the sum of two logarithms is an index
	log  [256]byte       // the exponents of the elements other than 0
}

// NewField returns a Field.
func NewField() *Field { return new(Field) }

// Add returns the sum of two elements.
func Add(a, b byte) byte { return a ^ b }

// Mul returns the product of two elements.
func (f *Field) Mul(a, b byte) byte {
	if f == nil {
		return 0
	}
	f.build()
	return f.mul(a, b)
}

// Inv returns the inverse of a.
func (f *Field) Inv(a byte) (byte, api.Errno) { return f.Div(1, a) }

// Div returns the quotient of a and b.
func (f *Field) Div(a, b byte) (byte, api.Errno) {
	if f == nil {
		return 0, api.ErrNil
	}
	if b == 0 {
		return 0, api.ErrArg
	}
	f.build()
	return f.mul(a, f.inverse(b)), api.OK
}

// Pow returns the product of e factors a.
func (f *Field) Pow(a byte, e int) byte {
	if f == nil {
		return 0
	}
	f.build()
	return f.power(a, e)
}

// build makes the tables. Every exported method that needs them calls it before it computes.
func (f *Field) build() { f.once.Do(f.fill) }

func (f *Field) fill() {
	a := byte(1)
	for i := range order {
		f.exp[i] = a
		f.exp[i+order] = a
		f.log[a] = byte(i)
		a = double(a)
	}
}

// double returns the product of 2 and a, without the tables.
func double(a byte) byte {
	if a&0x80 != 0 {
		return a<<1 ^ reduction
	}
	return a << 1
}

func (f *Field) mul(a, b byte) byte {
	if a == 0 || b == 0 {
		return 0
	}
	return f.exp[int(f.log[a])+int(f.log[b])]
}

// inverse returns the inverse of an element other than 0.
func (f *Field) inverse(a byte) byte { return f.exp[order-int(f.log[a])] }

func (f *Field) power(a byte, e int) byte {
	if e <= 0 {
		return 1
	}
	if a == 0 {
		return 0
	}
	// The exponent is reduced before it is multiplied, so that no product exceeds an int.
	return f.exp[int(f.log[a])*(e%order)%order]
}

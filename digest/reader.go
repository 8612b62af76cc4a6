package digest

import (
	"bytes"

	"stolon/api"
)

// Reader reads binary data.
type Reader struct {
	rest []byte
	err  api.Errno
}

// NewReader returns a Reader of b.
func NewReader(b []byte) *Reader { return &Reader{rest: bytes.Clone(b)} }

// U8 reads one byte.
func (r *Reader) U8() uint8 { return uint8(r.number(1)) }

// U16 reads two bytes.
func (r *Reader) U16() uint16 { return uint16(r.number(2)) }

// U32 reads four bytes.
func (r *Reader) U32() uint32 { return uint32(r.number(4)) }

// U64 reads eight bytes.
func (r *Reader) U64() uint64 { return r.number(8) }

// Raw reads n bytes.
func (r *Reader) Raw(n int) []byte { return bytes.Clone(r.take(n)) }

// Text reads a length of two bytes and that many bytes.
func (r *Reader) Text() []byte {
	if r == nil {
		return nil
	}
	before := r.rest
	b := r.Raw(int(r.U16()))
	if r.err != api.OK {
		// The length was read, but a call that fails reads nothing.
		r.rest = before
	}
	return b
}

// Rest returns the number of bytes that are left.
func (r *Reader) Rest() int {
	if r == nil {
		return 0
	}
	return len(r.rest)
}

// Err returns the first error.
func (r *Reader) Err() api.Errno {
	if r == nil {
		return api.ErrNil
	}
	return r.err
}

// End returns the first error, or ErrForm if bytes are left.
func (r *Reader) End() api.Errno {
	if r.Err() == api.OK && r.Rest() > 0 {
		return api.ErrForm
	}
	return r.Err()
}

// number reads a number of size bytes.
func (r *Reader) number(size int) uint64 {
	v := uint64(0)
	for _, b := range r.take(size) {
		v = v<<8 | uint64(b)
	}
	return v
}

// take reads n bytes and returns them in the Reader's own memory, or nothing if it fails or has failed.
func (r *Reader) take(n int) []byte {
	if r == nil || r.err != api.OK {
		return nil
	}
	if n < 0 {
		r.err = api.ErrArg
		return nil
	}
	if n > len(r.rest) {
		r.err = api.ErrShort
		return nil
	}
	b := r.rest[:n]
	r.rest = r.rest[n:]
	return b
}

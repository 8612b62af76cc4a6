package digest

import (
	"bytes"
	"math"

	"stolon/api"
)

// Writer collects binary data up to a limit.
type Writer struct {
	limit  int
	data   []byte
	failed bool
}

// NewWriter returns a Writer of at most limit bytes.
func NewWriter(limit int) *Writer { return &Writer{limit: max(limit, 0)} }

// U8 appends one byte.
func (w *Writer) U8(v uint8) { w.number(uint64(v), 1) }

// U16 appends two bytes, the highest first.
func (w *Writer) U16(v uint16) { w.number(uint64(v), 2) }

// U32 appends four bytes, the highest first.
func (w *Writer) U32(v uint32) { w.number(uint64(v), 4) }

// U64 appends eight bytes, the highest first.
func (w *Writer) U64(v uint64) { w.number(v, 8) }

// Raw appends bytes.
func (w *Writer) Raw(b []byte) {
	if w.fits(len(b)) {
		w.data = append(w.data, b...)
	}
}

// Text appends a length of two bytes and the bytes.
func (w *Writer) Text(b []byte) {
	if w == nil {
		return
	}
	if len(b) > math.MaxUint16 {
		w.failed = true
	}
	// Both parts must fit before the first one is appended.
	if w.fits(2 + len(b)) {
		w.U16(uint16(len(b)))
		w.Raw(b)
	}
}

// Len returns the number of bytes that were appended.
func (w *Writer) Len() int {
	if w == nil {
		return 0
	}
	return len(w.data)
}

// Bytes returns what was appended.
func (w *Writer) Bytes() ([]byte, api.Errno) {
	if w == nil {
		return nil, api.ErrNil
	}
	if w.failed {
		return nil, api.ErrLong
	}
	return bytes.Clone(w.data), api.OK
}

// number appends the lowest size bytes of v, the highest of them first.
func (w *Writer) number(v uint64, size int) {
	if !w.fits(size) {
		return
	}
	for i := range size {
		w.data = append(w.data, byte(v>>(8*(size-1-i))))
	}
}

// fits reports whether size more bytes may be appended; if they may not, the Writer fails.
func (w *Writer) fits(size int) bool {
	if w == nil {
		return false
	}
	if size > w.limit-len(w.data) {
		w.failed = true
	}
	return !w.failed
}

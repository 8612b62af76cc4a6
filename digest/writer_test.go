package digest_test

import (
	"bytes"
	"encoding/binary"
	"math"
	"testing"

	"stolon/api"
	"stolon/digest"
)

// expectBytes checks what a Writer holds.
func expectBytes(t *testing.T, w *digest.Writer, want []byte) {
	t.Helper()
	if b, e := w.Bytes(); e != api.OK || !bytes.Equal(b, want) || w.Len() != len(want) {
		t.Errorf("Bytes is %v, %v, Len is %d; want %v", b, e, w.Len(), want)
	}
}

// expectFailed checks that a Writer failed after size bytes, and that nothing is appended any more.
func expectFailed(t *testing.T, w *digest.Writer, size int) {
	t.Helper()
	for range 2 {
		if b, e := w.Bytes(); e != api.ErrLong || len(b) != 0 || w.Len() != size {
			t.Errorf("Bytes is %v, %v, Len is %d; want a failure after %d bytes", b, e, w.Len(), size)
		}
		w.U8(1)
		w.U16(1)
		w.U32(1)
		w.U64(1)
		w.Raw([]byte{1})
		w.Raw(nil)
		w.Text(nil)
	}
}

// P2.5
func TestWriterExample(t *testing.T) {
	w := digest.NewWriter(5)
	w.U16(258)
	w.Text([]byte("a"))
	expectBytes(t, w, []byte{1, 2, 0, 1, 'a'})
	w.U8(7)
	expectFailed(t, w, 5)
}

// P2.5
func TestWriterNumbers(t *testing.T) {
	w := digest.NewWriter(100)
	w.U8(0xA1)
	w.U16(0xB1B2)
	w.U32(0xC1C2C3C4)
	w.U64(0xD1D2D3D4D5D6D7D8)
	w.U8(0)
	w.U16(1)
	w.U32(2)
	w.U64(3)
	expectBytes(t, w, []byte{
		0xA1, 0xB1, 0xB2, 0xC1, 0xC2, 0xC3, 0xC4, 0xD1, 0xD2, 0xD3, 0xD4, 0xD5, 0xD6, 0xD7, 0xD8,
		0, 0, 1, 0, 0, 0, 2, 0, 0, 0, 0, 0, 0, 0, 3,
	})
	w = digest.NewWriter(100)
	w.U8(math.MaxUint8)
	w.U16(math.MaxUint16)
	w.U32(math.MaxUint32)
	w.U64(math.MaxUint64)
	expectBytes(t, w, bytes.Repeat([]byte{255}, 15))
}

// P2.5
func TestWriterBytes(t *testing.T) {
	w := digest.NewWriter(100)
	w.Raw(nil)
	w.Raw([]byte("xyz"))
	w.Raw([]byte{})
	w.Text(nil)
	w.Text([]byte("hello"))
	expectBytes(t, w, []byte("xyz\x00\x00\x00\x05hello"))
	// What was collected may be asked for again, and more may be appended.
	w.U8('!')
	expectBytes(t, w, []byte("xyz\x00\x00\x00\x05hello!"))
}

// P2.5: a call that reaches the limit is good, one that exceeds it by one byte appends nothing.
func TestWriterLimit(t *testing.T) {
	for _, c := range []struct {
		name string
		size int
		call func(w *digest.Writer)
	}{
		{"U8", 1, func(w *digest.Writer) { w.U8(7) }},
		{"U16", 2, func(w *digest.Writer) { w.U16(7) }},
		{"U32", 4, func(w *digest.Writer) { w.U32(7) }},
		{"U64", 8, func(w *digest.Writer) { w.U64(7) }},
		{"Raw", 3, func(w *digest.Writer) { w.Raw([]byte("abc")) }},
		{"Text", 5, func(w *digest.Writer) { w.Text([]byte("abc")) }},
		{"empty Text", 2, func(w *digest.Writer) { w.Text(nil) }},
	} {
		t.Run(c.name, func(t *testing.T) {
			for _, before := range []int{0, 1, 10} {
				for room := range c.size + 1 {
					w := digest.NewWriter(before + room)
					w.Raw(make([]byte, before))
					c.call(w)
					if room < c.size {
						expectFailed(t, w, before)
					} else if _, e := w.Bytes(); e != api.OK || w.Len() != before+c.size {
						t.Errorf("room for %d: %v, %d bytes", room, e, w.Len())
					}
				}
			}
		})
	}
}

// P2.5, R5
func TestWriterWithoutRoom(t *testing.T) {
	for _, limit := range []int{0, -1, -1000, math.MinInt} {
		w := digest.NewWriter(limit)
		w.Raw(nil)
		expectBytes(t, w, nil)
		w.U8(0)
		expectFailed(t, w, 0)
	}
}

// P2.5: a large limit takes no memory.
func TestWriterWithMuchRoom(t *testing.T) {
	w := digest.NewWriter(math.MaxInt)
	w.U8(1)
	w.Text([]byte("a"))
	expectBytes(t, w, []byte{1, 0, 1, 'a'})
}

// P2.5
func TestWriterLongestText(t *testing.T) {
	long := randomBytes(2, math.MaxUint16)
	w := digest.NewWriter(1 << 20)
	w.Text(long)
	expectBytes(t, w, append([]byte{255, 255}, long...))

	for _, n := range []int{math.MaxUint16 + 1, math.MaxUint16 + 2, 2 * (math.MaxUint16 + 1)} {
		w = digest.NewWriter(1 << 20)
		w.U8(5)
		w.Text(make([]byte, n))
		expectFailed(t, w, 1)
	}
	// Raw has no such limit.
	w = digest.NewWriter(1 << 20)
	w.Raw(make([]byte, math.MaxUint16+1))
	expectBytes(t, w, make([]byte, math.MaxUint16+1))
}

// P2.5, R4
func TestWriterSharesNothing(t *testing.T) {
	w := digest.NewWriter(100)
	raw, text := []byte("raw"), []byte("text")
	w.Raw(raw)
	w.Text(text)
	if string(raw) != "raw" || string(text) != "text" {
		t.Error("an argument was changed")
	}
	raw[0], text[0] = 'X', 'X'
	want := []byte("raw\x00\x04text")
	expectBytes(t, w, want)
	b, _ := w.Bytes()
	clear(b)
	_ = append(b, 'X')
	expectBytes(t, w, want)
	// A result that was handed out earlier stays as it was.
	b, _ = w.Bytes()
	w.Raw(make([]byte, 50))
	if !bytes.Equal(b, want) {
		t.Error(b)
	}
}

// R3
func TestNilWriter(t *testing.T) {
	var w *digest.Writer
	w.U8(1)
	w.U16(1)
	w.U32(1)
	w.U64(1)
	w.Raw([]byte("a"))
	w.Text([]byte("a"))
	w.Text(make([]byte, 70000))
	if b, e := w.Bytes(); e != api.ErrNil || len(b) != 0 || w.Len() != 0 {
		t.Error(b, e, w.Len())
	}
}

// P2.5: the numbers agree with the library's big-endian ones.
func TestWriterAgainstTheLibrary(t *testing.T) {
	w := digest.NewWriter(1 << 20)
	var want []byte
	b := randomBytes(5, 8*200)
	for i := range 200 {
		v := binary.LittleEndian.Uint64(b[8*i:])
		w.U8(uint8(v))
		w.U16(uint16(v))
		w.U32(uint32(v))
		w.U64(v)
		want = append(want, byte(v))
		want = binary.BigEndian.AppendUint16(want, uint16(v))
		want = binary.BigEndian.AppendUint32(want, uint32(v))
		want = binary.BigEndian.AppendUint64(want, v)
	}
	expectBytes(t, w, want)
}

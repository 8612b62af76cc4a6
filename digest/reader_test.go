package digest_test

import (
	"bytes"
	"math"
	"math/rand/v2"
	"testing"

	"stolon/api"
	"stolon/digest"
)

// expectReader checks what a Reader has left and how it stands.
func expectReader(t *testing.T, r *digest.Reader, rest int, err, end api.Errno) {
	t.Helper()
	if r.Rest() != rest || r.Err() != err || r.End() != end {
		t.Errorf("Rest is %d, Err is %v, End is %v; want %d, %v, %v", r.Rest(), r.Err(), r.End(), rest, err, end)
	}
}

// readsNothing calls each reading method and reports whether all of them return zero values.
func readsNothing(r *digest.Reader) bool {
	return r.U8() == 0 && r.U16() == 0 && r.U32() == 0 && r.U64() == 0 && len(r.Raw(1)) == 0 && len(r.Raw(0)) == 0 && len(r.Raw(-1)) == 0 && len(r.Raw(1000)) == 0 && len(r.Text()) == 0
}

// P2.6
func TestReaderNumbers(t *testing.T) {
	r := digest.NewReader([]byte{0xA1, 0xB1, 0xB2, 0xC1, 0xC2, 0xC3, 0xC4, 0xD1, 0xD2, 0xD3, 0xD4, 0xD5, 0xD6, 0xD7, 0xD8})
	expectReader(t, r, 15, api.OK, api.ErrForm)
	if v := r.U8(); v != 0xA1 {
		t.Errorf("U8 is %x", v)
	}
	expectReader(t, r, 14, api.OK, api.ErrForm)
	if v := r.U16(); v != 0xB1B2 {
		t.Errorf("U16 is %x", v)
	}
	expectReader(t, r, 12, api.OK, api.ErrForm)
	if v := r.U32(); v != 0xC1C2C3C4 {
		t.Errorf("U32 is %x", v)
	}
	expectReader(t, r, 8, api.OK, api.ErrForm)
	if v := r.U64(); v != 0xD1D2D3D4D5D6D7D8 {
		t.Errorf("U64 is %x", v)
	}
	expectReader(t, r, 0, api.OK, api.OK)
}

// P2.6
func TestReaderBytes(t *testing.T) {
	r := digest.NewReader([]byte("abc\x00\x02de\x00\x00f"))
	if b := r.Raw(0); len(b) != 0 || r.Rest() != 10 {
		t.Error("Raw(0)", b, r.Rest())
	}
	if b := r.Raw(3); string(b) != "abc" || r.Rest() != 7 {
		t.Error("Raw(3)", b, r.Rest())
	}
	if b := r.Text(); string(b) != "de" || r.Rest() != 3 {
		t.Error("Text", b, r.Rest())
	}
	if b := r.Text(); len(b) != 0 || r.Rest() != 1 {
		t.Error("an empty Text", b, r.Rest())
	}
	if b := r.Raw(1); string(b) != "f" {
		t.Error("Raw(1)", b)
	}
	expectReader(t, r, 0, api.OK, api.OK)
	if b := r.Raw(0); len(b) != 0 {
		t.Error("Raw(0) at the end", b)
	}
	expectReader(t, r, 0, api.OK, api.OK)
}

// P2.6
func TestReaderOfNothing(t *testing.T) {
	for _, b := range [][]byte{nil, {}} {
		r := digest.NewReader(b)
		expectReader(t, r, 0, api.OK, api.OK)
		if r.U8() != 0 {
			t.Error("U8")
		}
		expectReader(t, r, 0, api.ErrShort, api.ErrShort)
	}
}

// P2.6
func TestReaderExample(t *testing.T) {
	r := digest.NewReader([]byte{0, 2, 'a'})
	if v := r.U8(); v != 0 {
		t.Error(v)
	}
	if b := r.Text(); len(b) != 0 {
		t.Error(b)
	}
	expectReader(t, r, 2, api.ErrShort, api.ErrShort)
}

// P2.6: a call that needs one byte more than is left fails; it and the later ones read nothing.
func TestReaderShort(t *testing.T) {
	for _, c := range []struct {
		name string
		size int
		call func(r *digest.Reader) bool // whether the result is a zero value
	}{
		{"U8", 1, func(r *digest.Reader) bool { return r.U8() == 0 }},
		{"U16", 2, func(r *digest.Reader) bool { return r.U16() == 0 }},
		{"U32", 4, func(r *digest.Reader) bool { return r.U32() == 0 }},
		{"U64", 8, func(r *digest.Reader) bool { return r.U64() == 0 }},
		{"Raw", 3, func(r *digest.Reader) bool { return len(r.Raw(3)) == 0 }},
		{"Raw of very much", 100, func(r *digest.Reader) bool { return len(r.Raw(math.MaxInt)) == 0 }},
		{"Text", 259, func(r *digest.Reader) bool { return len(r.Text()) == 0 }}, // its length is 0101
	} {
		t.Run(c.name, func(t *testing.T) {
			for left := range c.size {
				r := digest.NewReader(bytes.Repeat([]byte{1}, 5+left))
				r.Raw(5)
				if !c.call(r) {
					t.Errorf("a value from %d bytes", left)
				}
				expectReader(t, r, left, api.ErrShort, api.ErrShort)
				if !readsNothing(r) {
					t.Errorf("a value after a failure with %d bytes left", left)
				}
				expectReader(t, r, left, api.ErrShort, api.ErrShort)
			}
		})
	}
}

// P2.6
func TestReaderEnoughForEach(t *testing.T) {
	ones := bytes.Repeat([]byte{1}, 259)
	if r := digest.NewReader(ones); len(r.Text()) != 257 || r.End() != api.OK {
		t.Error("Text")
	}
	if r := digest.NewReader(ones[:3]); len(r.Raw(3)) != 3 || r.End() != api.OK {
		t.Error("Raw")
	}
	if r := digest.NewReader(ones[:8]); r.U64() != 0x0101010101010101 || r.End() != api.OK {
		t.Error("U64")
	}
}

// P2.6
func TestReaderRawBelowZero(t *testing.T) {
	for _, n := range []int{-1, -2, math.MinInt} {
		for _, b := range [][]byte{nil, {1}, {1, 2, 3}} {
			r := digest.NewReader(b)
			if got := r.Raw(n); len(got) != 0 {
				t.Error(got)
			}
			expectReader(t, r, len(b), api.ErrArg, api.ErrArg)
			// The first error stays.
			if !readsNothing(r) {
				t.Error("a value after a failure")
			}
			expectReader(t, r, len(b), api.ErrArg, api.ErrArg)
		}
	}
	r := digest.NewReader([]byte{1})
	r.U16()
	r.Raw(-1)
	expectReader(t, r, 1, api.ErrShort, api.ErrShort)
}

// P2.6, R4
func TestReaderSharesNothing(t *testing.T) {
	b := []byte("abc\x00\x03def")
	r := digest.NewReader(b)
	clear(b)
	raw := r.Raw(3)
	if string(raw) != "abc" {
		t.Fatal("the argument is kept", raw)
	}
	clear(raw)
	_ = append(raw, 'X', 'X', 'X', 'X')
	text := r.Text()
	if string(text) != "def" {
		t.Fatal("a result shares memory with the Reader", text)
	}
	clear(text)
	b = []byte("abc")
	r = digest.NewReader(b)
	clear(r.Raw(2))
	clear(r.Raw(1))
	if string(b) != "abc" {
		t.Error("the argument was changed", b)
	}
}

// R3
func TestNilReader(t *testing.T) {
	var r *digest.Reader
	if !readsNothing(r) {
		t.Error("a nil Reader has values")
	}
	expectReader(t, r, 0, api.ErrNil, api.ErrNil)
}

// What follows from P2.5 and P2.6: what a Writer has collected is read as it was written.
func TestReaderReadsWhatAWriterWrote(t *testing.T) {
	random := rand.New(rand.NewPCG(1, 2))
	for range 200 {
		w := digest.NewWriter(1 << 20)
		var checks []func(r *digest.Reader) bool
		add := func(check func(r *digest.Reader) bool) { checks = append(checks, check) }
		for range random.IntN(30) {
			v := random.Uint64()
			b := randomBytes(v, random.IntN(400))
			switch random.IntN(6) {
			case 0:
				w.U8(uint8(v))
				add(func(r *digest.Reader) bool { return r.U8() == uint8(v) })
			case 1:
				w.U16(uint16(v))
				add(func(r *digest.Reader) bool { return r.U16() == uint16(v) })
			case 2:
				w.U32(uint32(v))
				add(func(r *digest.Reader) bool { return r.U32() == uint32(v) })
			case 3:
				w.U64(v)
				add(func(r *digest.Reader) bool { return r.U64() == v })
			case 4:
				w.Raw(b)
				add(func(r *digest.Reader) bool { return bytes.Equal(r.Raw(len(b)), b) })
			case 5:
				w.Text(b)
				add(func(r *digest.Reader) bool { return bytes.Equal(r.Text(), b) })
			}
		}
		b, e := w.Bytes()
		if e != api.OK {
			t.Fatal(e)
		}
		r := digest.NewReader(b)
		for i, check := range checks {
			if !check(r) {
				t.Fatalf("value %d of %d", i, len(checks))
			}
		}
		expectReader(t, r, 0, api.OK, api.OK)
	}
}

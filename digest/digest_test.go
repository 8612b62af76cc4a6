package digest_test

import (
	"bytes"
	"crypto/sha256"
	"math/rand/v2"
	"reflect"
	"strings"
	"testing"

	"stolon/api"
	"stolon/digest"
)

// randomBytes returns n bytes, the same ones for the same seed.
func randomBytes(seed uint64, n int) []byte {
	r := rand.New(rand.NewPCG(seed, 7))
	b := make([]byte, n)
	for i := range b {
		b[i] = byte(r.Uint32())
	}
	return b
}

// P2.1
func TestSHA256KnownDigests(t *testing.T) {
	for _, c := range []struct{ in, want string }{
		{"", "e3b0c44298fc1c149afbf4c8996fb92427ae41e4649b934ca495991b7852b855"},
		{"abc", "ba7816bf8f01cfea414140de5dae2223b00361a396177a9cb410ff61f20015ad"},
		{"abcdbcdecdefdefgefghfghighijhijkijkljklmklmnlmnomnopnopq", "248d6a61d20638b8e5c026930c3e6039a33ce45964ff2167f6ecedd419db06c1"},
		{strings.Repeat("a", 1000000), "cdc76e5c9914fb9281a1c7e284d73e67f1809a48a497200e046d39ccc7112cd0"},
	} {
		if got := digest.Hex(digest.SHA256([]byte(c.in))); got != c.want {
			t.Errorf("SHA256 of %d bytes is %s", len(c.in), got)
		}
	}
}

// P2.1: every length around the ends of chunks, and larger ones.
func TestSHA256OfAllLengths(t *testing.T) {
	b := randomBytes(1, 20001)
	check := func(n int) {
		if digest.SHA256(b[:n]) != api.Digest(sha256.Sum256(b[:n])) {
			t.Errorf("SHA256 of %d bytes", n)
		}
	}
	for n := range 300 {
		check(n)
	}
	for _, n := range []int{1023, 1024, 8191, 8192, 20000, 20001} {
		check(n)
	}
	if digest.SHA256(nil) != digest.SHA256([]byte{}) {
		t.Error("nil is not the empty message")
	}
}

// P2.3: whatever the parts are, Sum is the digest of the message so far, and asking for it changes nothing.
func TestHashInParts(t *testing.T) {
	for _, part := range []int{1, 2, 7, 55, 56, 63, 64, 65, 127, 128, 129, 500} {
		h := digest.NewHash()
		var message []byte
		for i := range 12 {
			b := randomBytes(uint64(i), part)
			h.Write(b)
			message = append(message, b...)
			for range 2 {
				if h.Sum() != api.Digest(sha256.Sum256(message)) || h.Size() != len(message) {
					t.Fatalf("parts of %d bytes, after %d of them: Size %d", part, i+1, h.Size())
				}
			}
		}
	}
}

// P2.3
func TestHashBegins(t *testing.T) {
	h := digest.NewHash()
	if h.Sum() != digest.SHA256(nil) || h.Size() != 0 {
		t.Error("a new Hash is not that of the empty message")
	}
	h.Write(nil)
	h.Write([]byte{})
	if h.Sum() != digest.SHA256(nil) || h.Size() != 0 {
		t.Error("an empty Write changes the message")
	}
	other := digest.NewHash()
	other.Write([]byte("x"))
	if h.Size() != 0 || h.Sum() != digest.SHA256(nil) {
		t.Error("two Hashes share their message")
	}
}

// P2.3, R4: the bytes of a Write are not kept, nor changed.
func TestHashKeepsNoArgument(t *testing.T) {
	h := digest.NewHash()
	b := []byte("abc")
	h.Write(b)
	if string(b) != "abc" {
		t.Error("Write changed its argument")
	}
	b[0] = 'x'
	if h.Sum() != digest.SHA256([]byte("abc")) {
		t.Error("Write kept its argument")
	}
}

// keptBytes counts the bytes of all arrays, slices and strings of bytes in a value.
func keptBytes(v reflect.Value) int {
	switch v.Kind() {
	case reflect.Pointer:
		if v.IsNil() {
			return 0
		}
		return keptBytes(v.Elem())
	case reflect.Struct:
		n := 0
		for i := range v.NumField() {
			n += keptBytes(v.Field(i))
		}
		return n
	case reflect.Slice, reflect.Array:
		if v.Type().Elem().Kind() == reflect.Uint8 {
			return v.Len()
		}
		n := 0
		for i := range v.Len() {
			n += keptBytes(v.Index(i))
		}
		return n
	case reflect.String:
		return v.Len()
	}
	return 0
}

// P2.3
func TestHashKeepsFewBytes(t *testing.T) {
	h := digest.NewHash()
	for _, n := range []int{1, 100, 199, 200, 1000, 100000} {
		h.Write(make([]byte, n))
		h.Sum()
		if kept := keptBytes(reflect.ValueOf(h)); kept >= 200 {
			t.Fatalf("a Hash keeps %d bytes of %d", kept, h.Size())
		}
	}
}

// R3
func TestNilHash(t *testing.T) {
	var h *digest.Hash
	h.Write([]byte("abc"))
	if h.Sum() != (api.Digest{}) || h.Size() != 0 {
		t.Error("a nil Hash has values")
	}
}

// P2.4
func TestHexExamples(t *testing.T) {
	var d api.Digest
	for i := range d {
		d[i] = byte(i * 8)
	}
	d[0], d[1], d[31] = 0x0f, 0xf0, 0xa9
	want := "0ff01018202830384048505860687078" + "80889098a0a8b0b8c0c8d0d8e0e8f0a9"
	if got := digest.Hex(d); got != want {
		t.Error(got)
	}
	if got, e := digest.ParseHex(want); e != api.OK || got != d {
		t.Error(got, e)
	}
	if got := digest.Hex(api.Digest{}); got != strings.Repeat("0", 64) {
		t.Error(got)
	}
}

// P2.4: every byte, in every place.
func TestHexThereAndBack(t *testing.T) {
	for v := range 256 {
		for place := range 32 {
			var d api.Digest
			d[place] = byte(v)
			s := digest.Hex(d)
			want := strings.Repeat("00", place) + string("0123456789abcdef"[v/16]) + string("0123456789abcdef"[v%16]) + strings.Repeat("00", 31-place)
			if s != want {
				t.Fatalf("Hex of %d at %d is %s", v, place, s)
			}
			if back, e := digest.ParseHex(s); e != api.OK || back != d {
				t.Fatalf("ParseHex(%s) is %v, %v", s, back, e)
			}
		}
	}
}

// P2.4: the length decides before the digits do.
func TestParseHexErrors(t *testing.T) {
	full := strings.Repeat("5", 64)
	for _, c := range []struct {
		in   string
		want api.Errno
	}{
		{"", api.ErrShort}, {"00", api.ErrShort}, {full[1:], api.ErrShort}, {strings.Repeat("x", 63), api.ErrShort},
		{full + "5", api.ErrLong}, {strings.Repeat("x", 65), api.ErrLong}, {full + full, api.ErrLong},
		{strings.Repeat("x", 64), api.ErrForm},
	} {
		if d, e := digest.ParseHex(c.in); e != c.want || d != (api.Digest{}) {
			t.Errorf("ParseHex(%q) is %v, %v", c.in, d, e)
		}
	}
	// 32 runes of two bytes each are 64 bytes.
	if d, e := digest.ParseHex(strings.Repeat("é", 32)); e != api.ErrForm || d != (api.Digest{}) {
		t.Error(d, e)
	}
}

// P2.4: each byte that is no digit, in each place.
func TestParseHexForm(t *testing.T) {
	for v := range 256 {
		digit := strings.IndexByte("0123456789abcdef", byte(v)) >= 0
		for _, place := range []int{0, 1, 31, 62, 63} {
			text := bytes.Repeat([]byte{'5'}, 64)
			text[place] = byte(v)
			d, e := digest.ParseHex(string(text))
			if digit != (e == api.OK) || !digit && (e != api.ErrForm || d != (api.Digest{})) {
				t.Fatalf("byte %d at %d: %v, %v", v, place, d, e)
			}
		}
	}
}

// P2.1, P2.3: a message whose length in bits takes five bytes.
func TestHashOfALongMessage(t *testing.T) {
	h, want := digest.NewHash(), sha256.New()
	part := randomBytes(6, 1<<20)
	for range 1 << 9 {
		h.Write(part)
		want.Write(part)
	}
	if h.Size() != 1<<29 || h.Sum() != api.Digest(want.Sum(nil)) {
		t.Error("Sum or Size", h.Size())
	}
}

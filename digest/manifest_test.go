package digest_test

import (
	"bytes"
	"crypto/sha256"
	"math"
	"reflect"
	"slices"
	"testing"

	"stolon/api"
	"stolon/digest"
	"stolon/rs"
)

// randomDigests returns n digests, the same ones for the same seed.
func randomDigests(seed uint64, n int) []api.Digest {
	b := randomBytes(seed, 32*n)
	out := make([]api.Digest, n)
	for i := range out {
		out[i] = api.Digest(b[32*i : 32*i+32])
	}
	return out
}

// plainManifest returns a manifest with these numbers and arbitrary digests; Pieces has the length that Total asks for, if that may be.
func plainManifest(k, n, total, size int) api.Manifest {
	return api.Manifest{K: k, N: n, Total: total, Size: size, Object: randomDigests(99, 1)[0], Pieces: randomDigests(5, min(max(total, 0), 300))}
}

// badNumbers returns K, N, Total and Size of manifests that are not valid.
func badNumbers() [][4]int {
	return [][4]int{
		{0, 0, 0, 0}, {0, 2, 3, 5}, {-1, 2, 3, 5}, {3, 2, 3, 5}, {2, 4, 3, 5}, {2, 3, 256, 5}, {2, 2, 256, 5}, {256, 256, 256, 5},
		{1, 0, 1, 5}, {1, -1, 1, 5}, {1, 1, 0, 5}, {1, 1, -1, 5}, {2, 2, 1, 5}, {2, 3, 3, -1}, {2, 3, 3, 8193},
		{math.MinInt, 2, 3, 5}, {2, 3, math.MaxInt, 5}, {2, 3, 3, math.MaxInt}, {2, 3, 3, math.MinInt}, {1, math.MaxInt, 3, 5}, {257, 258, 259, 5},
	}
}

// goodNumbers returns K, N, Total and Size of valid manifests.
func goodNumbers() [][4]int {
	return [][4]int{{1, 1, 1, 0}, {1, 1, 1, 8192}, {2, 3, 3, 2}, {2, 2, 3, 7}, {1, 255, 255, 300}, {255, 255, 255, 8192}, {1, 1, 255, 258}, {3, 5, 16, 4660}}
}

// badManifests returns manifests that are not valid.
func badManifests() []api.Manifest {
	out := []api.Manifest{{}}
	for _, c := range badNumbers() {
		out = append(out, plainManifest(c[0], c[1], c[2], c[3]))
	}
	for _, n := range []int{0, 1, 2, 4, 255} {
		m := plainManifest(2, 3, 3, 5)
		m.Pieces = randomDigests(5, n)
		out = append(out, m)
	}
	return out
}

// layOut writes a manifest's bytes by the words of P2.8.
func layOut(m api.Manifest) []byte {
	b := []byte{0x4D, 1, byte(m.K), byte(m.N), byte(m.Total), byte(m.Size / 256), byte(m.Size % 256)}
	b = append(b, m.Object[:]...)
	for _, d := range m.Pieces {
		b = append(b, d[:]...)
	}
	return b
}

// P2.8
func TestCheckManifest(t *testing.T) {
	for _, c := range goodNumbers() {
		if e := digest.CheckManifest(plainManifest(c[0], c[1], c[2], c[3])); e != api.OK {
			t.Error(c, e)
		}
	}
	for _, m := range badManifests() {
		if e := digest.CheckManifest(m); e != api.ErrArg {
			t.Error(m.K, m.N, m.Total, m.Size, len(m.Pieces), e)
		}
	}
}

// P2.8
func TestEncodeManifestAndID(t *testing.T) {
	for _, c := range goodNumbers() {
		m := plainManifest(c[0], c[1], c[2], c[3])
		want := layOut(m)
		b, e := digest.EncodeManifest(m)
		if e != api.OK || !bytes.Equal(b, want) || len(b) != 39+32*m.Total {
			t.Error(c, e, b)
		}
		if id, e := digest.ID(m); e != api.OK || id != api.Digest(sha256.Sum256(want)) {
			t.Error(c, id, e)
		}
	}
}

// P2.8
func TestEncodeManifestAndIDErrors(t *testing.T) {
	for _, m := range badManifests() {
		if b, e := digest.EncodeManifest(m); e != api.ErrArg || len(b) != 0 {
			t.Error("EncodeManifest", m.K, m.N, m.Total, m.Size, len(m.Pieces), e)
		}
		if id, e := digest.ID(m); e != api.ErrArg || id != (api.Digest{}) {
			t.Error("ID", m.K, m.N, m.Total, m.Size, len(m.Pieces), e)
		}
	}
}

// P2.8, R4
func TestEncodeManifestSharesNothing(t *testing.T) {
	m := plainManifest(2, 3, 3, 5)
	before := slices.Clone(m.Pieces)
	b, _ := digest.EncodeManifest(m)
	clear(b)
	if !slices.Equal(m.Pieces, before) {
		t.Error("the manifest was changed")
	}
	if again, _ := digest.EncodeManifest(m); !bytes.Equal(again, layOut(m)) {
		t.Error("a result shares memory")
	}
}

// P2.9
func TestDecodeManifest(t *testing.T) {
	for _, c := range goodNumbers() {
		m := plainManifest(c[0], c[1], c[2], c[3])
		if got, e := digest.DecodeManifest(layOut(m)); e != api.OK || !reflect.DeepEqual(got, m) {
			t.Error(c, got, e)
		}
	}
}

// P2.9, R4
func TestDecodeManifestSharesNothing(t *testing.T) {
	m := plainManifest(2, 3, 3, 5)
	b := layOut(m)
	got, _ := digest.DecodeManifest(b)
	if !bytes.Equal(b, layOut(m)) {
		t.Error("the argument was changed")
	}
	clear(b)
	if !reflect.DeepEqual(got, m) {
		t.Error("the argument is kept")
	}
}

// P2.9: each cut of a manifest, and what follows it.
func TestDecodeManifestLength(t *testing.T) {
	for _, total := range []int{1, 3, 255} {
		b := layOut(plainManifest(1, 1, total, 5))
		for n := range len(b) {
			expectNoManifest(t, b[:n], api.ErrShort)
		}
		for _, more := range []int{1, 31, 32, 64} {
			expectNoManifest(t, append(slices.Clone(b), make([]byte, more)...), api.ErrForm)
		}
	}
}

// expectNoManifest checks that the bytes are no manifest.
func expectNoManifest(t *testing.T, b []byte, want api.Errno) {
	t.Helper()
	if m, e := digest.DecodeManifest(b); e != want || !reflect.DeepEqual(m, api.Manifest{}) {
		t.Errorf("%d bytes %v: %v, %v; want %v", len(b), b[:min(len(b), 7)], m, e, want)
	}
}

// P2.9, R1: the order of the errors.
func TestDecodeManifestErrors(t *testing.T) {
	for _, c := range []struct {
		head []byte
		want api.Errno
	}{
		{nil, api.ErrShort},
		{[]byte{0}, api.ErrShort},
		{[]byte{0, 0, 0, 0, 0, 255}, api.ErrShort}, // before the first byte, the counts and the size
		{[]byte{76, 1, 2, 3, 3, 0, 2}, api.ErrForm},
		{[]byte{77, 0, 2, 3, 3, 0, 2}, api.ErrForm},
		{[]byte{77, 2, 2, 3, 3, 0, 2}, api.ErrForm},
		{[]byte{1, 77, 2, 3, 3, 0, 2}, api.ErrForm},
		{[]byte{78, 1, 0, 0, 0, 255, 255}, api.ErrForm}, // before the counts and the size
		{[]byte{77, 255, 3, 2, 1, 255, 255}, api.ErrForm},
		{[]byte{77, 1, 0, 0, 0, 0, 2}, api.ErrArg},
		{[]byte{77, 1, 0, 3, 3, 0, 2}, api.ErrArg},
		{[]byte{77, 1, 3, 2, 3, 0, 2}, api.ErrArg},
		{[]byte{77, 1, 2, 4, 3, 0, 2}, api.ErrArg},
		{[]byte{77, 1, 1, 1, 0, 0, 2}, api.ErrArg},
		{[]byte{77, 1, 2, 3, 3, 0x20, 1}, api.ErrArg}, // the size 8193, before the length
		{[]byte{77, 1, 2, 3, 3, 255, 255}, api.ErrArg},
		{[]byte{77, 1, 2, 3, 3, 0x20, 0}, api.ErrShort},
		{[]byte{77, 1, 2, 3, 3, 0, 0}, api.ErrShort},
	} {
		expectNoManifest(t, c.head, c.want)
		if c.want == api.ErrForm || c.want == api.ErrArg {
			// Too many or too few bytes come after these errors.
			expectNoManifest(t, append(slices.Clone(c.head), make([]byte, 32+32*3)...), c.want)
			expectNoManifest(t, append(slices.Clone(c.head), make([]byte, 10000)...), c.want)
		}
	}
}

// P2.9 after P2.7: what Make returns, encoded and decoded.
func TestManifestThereAndBack(t *testing.T) {
	m, _, e := digest.Make(rs.NewField(), 3, 5, 7, randomBytes(1, 1000))
	if e != api.OK {
		t.Fatal(e)
	}
	b, e := digest.EncodeManifest(m)
	if e != api.OK {
		t.Fatal(e)
	}
	if got, e := digest.DecodeManifest(b); e != api.OK || !reflect.DeepEqual(got, m) {
		t.Error(got, e)
	}
}

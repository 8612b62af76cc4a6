package digest_test

import (
	"hash/crc32"
	"math/rand/v2"
	"slices"
	"testing"

	"stolon/digest"
)

// P2.2
func TestCRC32CKnownSums(t *testing.T) {
	rising := make([]byte, 32)
	for i := range rising {
		rising[i] = byte(i)
	}
	for _, c := range []struct {
		in   []byte
		want uint32
	}{
		{nil, 0}, {[]byte{}, 0}, {[]byte("123456789"), 0xE3069283}, {make([]byte, 32), 0x8A9136AA}, {slices.Repeat([]byte{255}, 32), 0x62A8AB43}, {rising, 0x46DD794E},
	} {
		if got := digest.CRC32C(c.in); got != c.want {
			t.Errorf("CRC32C(%v) is %08X", c.in, got)
		}
	}
}

// P2.2
func TestCRC32CAgainstTheLibrary(t *testing.T) {
	table := crc32.MakeTable(crc32.Castagnoli)
	for v := range 256 {
		if b := []byte{byte(v)}; digest.CRC32C(b) != crc32.Checksum(b, table) {
			t.Errorf("CRC32C of the byte %d", v)
		}
	}
	for n := range 300 {
		if b := randomBytes(uint64(n), n); digest.CRC32C(b) != crc32.Checksum(b, table) {
			t.Errorf("CRC32C of %d bytes", n)
		}
	}
}

// P2.2, R4
func TestCRC32CChangesNothing(t *testing.T) {
	b := []byte("123456789")
	digest.CRC32C(b)
	if string(b) != "123456789" {
		t.Error(b)
	}
}

// What follows from P2.2: a change within 32 consecutive bits changes the sum.
func TestCRC32CFindsShortChanges(t *testing.T) {
	r := rand.New(rand.NewPCG(3, 4))
	message := randomBytes(9, 128)
	sum := digest.CRC32C(message)
	for range 20000 {
		changed := slices.Clone(message)
		first := r.IntN(len(message)*8 - 31)
		bits := r.Uint32() | 1
		for i := range 32 {
			// The bits of a byte follow one another from the lowest one.
			changed[(first+i)/8] ^= byte(bits>>i&1) << ((first + i) % 8)
		}
		if digest.CRC32C(changed) == sum {
			t.Fatalf("the change %08x at the bit %d is not found", bits, first)
		}
	}
}

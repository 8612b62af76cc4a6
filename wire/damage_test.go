package wire_test

import (
	"bytes"
	"math/rand/v2"
	"testing"

	"stolon/api"
	"stolon/wire"
)

// This file tests P8.7. It samples the changes of four bytes: it cannot try them all.

// expectDamage checks that Decode refuses a frame in which some consecutive bytes are changed by exclusive or.
func expectDamage(t *testing.T, frame []byte, at int, bits ...byte) {
	t.Helper()
	b := bytes.Clone(frame)
	for i, x := range bits {
		b[at+i] ^= x
	}
	if m, e := wire.Decode(b); e == api.OK || !same(m, api.Message{}) {
		t.Fatalf("%x at the byte %d of a %s: Decode returns %v, %d", bits, at, modelName(api.Kind(frame[3])), m, e)
	}
}

// P8.7: every change of a single byte.
func TestDamageOfOneByte(t *testing.T) {
	for _, kind := range kinds() {
		frame := encode(t, small(kind))
		for at := range frame {
			for v := 1; v < 256; v++ {
				expectDamage(t, frame, at, byte(v))
			}
		}
	}
}

// P8.7: changes within four bytes, in every place that is not partly in the checksum.
func TestDamageOfFourBytes(t *testing.T) {
	r := rand.New(rand.NewPCG(8, 9))
	for _, kind := range kinds() {
		frame := encode(t, small(kind))
		for at := range len(frame) - 3 {
			if at > len(frame)-8 && at < len(frame)-4 {
				continue
			}
			for i := range 32 {
				var bits [4]byte
				bits[i/8] = 1 << (i % 8)
				expectDamage(t, frame, at, bits[:]...)
				for j := range i {
					two := bits
					two[j/8] |= 1 << (j % 8)
					expectDamage(t, frame, at, two[:]...)
				}
			}
			for range 200 {
				v := 1 + r.Uint32N(1<<32-1)
				expectDamage(t, frame, at, byte(v>>24), byte(v>>16), byte(v>>8), byte(v))
			}
			expectDamage(t, frame, at, 255, 255, 255, 255)
		}
	}
}

// P8.7: changes that make another frame that looks right but for its checksum: other kinds, peers and lengths.
func TestDamageOfTheHead(t *testing.T) {
	for _, kind := range kinds() {
		frame := encode(t, small(kind))
		for other := range byte(16) {
			for peers := range 256 {
				if bits := []byte{other, byte(peers / 16), byte(peers % 16)}; bits[0]|bits[1]|bits[2] != 0 {
					expectDamage(t, frame, 3, bits...)
				}
			}
		}
		for length := 1; length < 1<<15; length++ {
			expectDamage(t, frame, 6, 0, 0, byte(length>>8), byte(length))
		}
	}
}

// P8.7: large frames.
func TestDamageOfLargeFrames(t *testing.T) {
	r := rand.New(rand.NewPCG(8, 10))
	for range 1500 {
		m := randomMessage(r, api.Kind(1+r.IntN(int(lastKind))))
		frame := encode(t, m)
		v := 1 + r.Uint32N(1<<32-1)
		at := r.IntN(len(frame) - 7)
		if r.IntN(8) == 0 {
			at = len(frame) - 4
		}
		expectDamage(t, frame, at, byte(v>>24), byte(v>>16), byte(v>>8), byte(v))
	}
}

package digest

// castagnoli is the polynomial of CRC-32C, its highest power in the lowest bit.
const castagnoli = 0x82F63B78

// CRC32C returns the CRC-32C of b.
func CRC32C(b []byte) uint32 {
	register := ^uint32(0)
	for _, v := range b {
		register ^= uint32(v)
		for range 8 {
			// The mask has all bits set if the bit that is shifted out is 1, and none otherwise.
			mask := -(register & 1)
			register = register>>1 ^ castagnoli&mask
		}
	}
	return ^register
}

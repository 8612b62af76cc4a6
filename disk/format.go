package disk

import (
	"stolon/api"
	"stolon/digest"
)

const (
	slots     = 2          // superblocks of a disk, and areas
	superMark = 0x53544F4C // the first number of a superblock after its checksum
	sumSize   = 4          // bytes of a checksum
	headSize  = 22         // bytes of a log block before its data
	partSize  = api.BlockSize - headSize
)

// super is what a superblock says.
type super struct {
	generation uint64
	area       int
}

// part is what a log block says: one of the parts of a record.
type part struct {
	generation    uint64
	number, parts int
	data          []byte
}

// Cost returns the number of log blocks of a record of so many bytes.
func Cost(size int) int {
	if size <= 0 {
		return 1
	}
	// Not (size + partSize - 1) / partSize, whose sum may exceed an int.
	return (size-1)/partSize + 1
}

// bytes returns a superblock.
func (s super) bytes() []byte {
	w := digest.NewWriter(api.BlockSize - sumSize)
	w.U32(superMark)
	w.U64(s.generation)
	w.U8(uint8(s.area))
	return seal(w)
}

// bytes returns the log block at a position of an area.
func (p part) bytes(position int) []byte {
	w := digest.NewWriter(api.BlockSize - sumSize)
	w.U64(p.generation)
	w.U32(uint32(position))
	w.U16(uint16(p.number))
	w.U16(uint16(p.parts))
	w.Text(p.data)
	return seal(w)
}

// seal returns the block of what was written, followed by zeros, behind its checksum.
func seal(w *digest.Writer) []byte {
	w.Raw(make([]byte, api.BlockSize-sumSize-w.Len()))
	body, _ := w.Bytes()
	whole := digest.NewWriter(api.BlockSize)
	whole.U32(digest.CRC32C(body))
	whole.Raw(body)
	b, _ := whole.Bytes()
	return b
}

// readSuper returns what a block says as a superblock, and whether it is a valid one.
func readSuper(b block) (super, bool) {
	r := digest.NewReader(b[:])
	sum := r.U32()
	mark := r.U32()
	s := super{generation: r.U64(), area: int(r.U8())}
	return s, mark == superMark && s.area < slots && sum == sumOf(b)
}

// readPart returns what a block says as the log block at a position of an area, and whether it is a valid one.
func readPart(b block, position int) (part, bool) {
	r := digest.NewReader(b[:])
	sum := r.U32()
	p := part{generation: r.U64()}
	own := r.U32() == uint32(position)
	p.number, p.parts = int(r.U16()), int(r.U16())
	size := int(r.U16())
	// A number below the number of parts means that there is at least one. The checksum, which takes longest, comes last.
	if !own || p.number >= p.parts || size > partSize || sum != sumOf(b) {
		return part{}, false
	}
	p.data = r.Raw(size)
	return p, true
}

// sumOf returns the checksum that a block should have.
func sumOf(b block) uint32 { return digest.CRC32C(b[sumSize:]) }

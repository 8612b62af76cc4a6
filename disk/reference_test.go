package disk_test

import (
	"bytes"
	"encoding/binary"
	"hash/crc32"
	"slices"
	"testing"

	"stolon/api"
	"stolon/disk"
)

// This file has a second, plainer implementation of the format, which reads and writes images and keeps nothing in mind.

// sealed sets the checksum of a block.
func sealed(b []byte) []byte {
	binary.BigEndian.PutUint32(b, crc32.Checksum(b[4:], crc32.MakeTable(crc32.Castagnoli)))
	return b
}

// superBlock returns a superblock.
func superBlock(generation uint64, area int) []byte {
	b := make([]byte, 128)
	copy(b[4:], "STOL")
	binary.BigEndian.PutUint64(b[8:], generation)
	b[16] = byte(area)
	return sealed(b)
}

// logBlock returns a log block.
func logBlock(generation uint64, position, number, parts int, data string) []byte {
	b := make([]byte, 128)
	binary.BigEndian.PutUint64(b[4:], generation)
	binary.BigEndian.PutUint32(b[12:], uint32(position))
	binary.BigEndian.PutUint16(b[16:], uint16(number))
	binary.BigEndian.PutUint16(b[18:], uint16(parts))
	binary.BigEndian.PutUint16(b[20:], uint16(len(data)))
	copy(b[22:], data)
	return sealed(b)
}

// changed returns a block with another byte at one place and the checksum that belongs to it.
func changed(b []byte, at int, v byte) []byte {
	b = slices.Clone(b)
	b[at] = v
	return sealed(b)
}

// setBlock puts a block into an image.
func setBlock(image []byte, i int, b []byte) { copy(image[128*i:128*(i+1)], b) }

// getBlock returns a block of an image.
func getBlock(image []byte, i int) []byte { return image[128*i : 128*(i+1)] }

// areaSize returns the area size of an image.
func areaSize(image []byte) int { return (len(image)/128 - 2) / 2 }

// goodSum reports whether a block has the checksum that it should have.
func goodSum(b []byte) bool { return bytes.Equal(sealed(slices.Clone(b)), b) }

// found is what an image says.
type found struct {
	slot       int // of the active superblock, or -1
	area       int
	generation uint64
	greatest   uint64
	any        bool // greatest has a meaning
	entries    []api.Entry
}

// base returns the number of the first block of the current area.
func (f found) base(image []byte) int { return 2 + f.area*areaSize(image) }

// validLog reports whether a block is a valid log block at a position.
func validLog(b []byte, position int) bool {
	parts := binary.BigEndian.Uint16(b[18:])
	return goodSum(b) && binary.BigEndian.Uint32(b[12:]) == uint32(position) && parts >= 1 && binary.BigEndian.Uint16(b[16:]) < parts && binary.BigEndian.Uint16(b[20:]) <= 106
}

// standing returns the record at a position of the current area of an image, and its number of parts: 0 if none stands there.
func (f found) standing(image []byte, at int) ([]byte, int) {
	if f.slot < 0 || at < 0 || at >= areaSize(image) {
		return nil, 0
	}
	parts := int(binary.BigEndian.Uint16(getBlock(image, f.base(image)+at)[18:]))
	if parts == 0 || at+parts > areaSize(image) {
		return nil, 0
	}
	var data []byte
	for i := range parts {
		b := getBlock(image, f.base(image)+at+i)
		right := binary.BigEndian.Uint64(b[4:]) == f.generation && binary.BigEndian.Uint16(b[16:]) == uint16(i) && binary.BigEndian.Uint16(b[18:]) == uint16(parts)
		if !validLog(b, at+i) || !right {
			return nil, 0
		}
		data = append(data, b[22:22+binary.BigEndian.Uint16(b[20:])]...)
	}
	return data, parts
}

// look reads an image.
func look(image []byte) found {
	f := found{slot: -1}
	see := func(g uint64) {
		if !f.any || g > f.greatest {
			f.any, f.greatest = true, g
		}
	}
	for slot := range 2 {
		b := getBlock(image, slot)
		if !goodSum(b) || string(b[4:8]) != "STOL" || b[16] > 1 {
			continue
		}
		g := binary.BigEndian.Uint64(b[8:])
		see(g)
		if f.slot < 0 || g > f.generation {
			f.slot, f.area, f.generation = slot, int(b[16]), g
		}
	}
	for i := range 2 * areaSize(image) {
		if b := getBlock(image, 2+i); validLog(b, i%areaSize(image)) {
			see(binary.BigEndian.Uint64(b[4:]))
		}
	}
	for at := 0; at < areaSize(image); {
		data, parts := f.standing(image, at)
		if parts > 0 {
			f.entries = append(f.entries, api.Entry{At: at, Data: data})
		}
		at += max(parts, 1)
	}
	return f
}

// sameEntries compares entries; no data and empty data are the same.
func sameEntries(a, b []api.Entry) bool {
	return slices.EqualFunc(a, b, func(x, y api.Entry) bool { return x.At == y.At && bytes.Equal(x.Data, y.Data) })
}

// bytesOf returns the data of entries.
func bytesOf(entries []api.Entry) [][]byte {
	var list [][]byte
	for _, e := range entries {
		list = append(list, e.Data)
	}
	return list
}

// sameRecords compares records.
func sameRecords(a, b [][]byte) bool { return slices.EqualFunc(a, b, bytes.Equal) }

// records returns a record for each text.
func records(texts ...string) [][]byte {
	var list [][]byte
	for _, s := range texts {
		list = append(list, []byte(s))
	}
	return list
}

// blocksOf returns the log blocks of records from a position on.
func blocksOf(generation uint64, at int, records ...[]byte) [][]byte {
	var list [][]byte
	for _, r := range records {
		parts := max(1, (len(r)+105)/106)
		for i := range parts {
			list = append(list, logBlock(generation, at, i, parts, string(r[106*i:min(106*(i+1), len(r))])))
			at++
		}
	}
	return list
}

// open opens a disk and compares what Open returns with what its image says.
func open(t *testing.T, d *disk.Disk) (*disk.Journal, []api.Entry) {
	t.Helper()
	before := d.Image()
	f := look(before)
	j, entries, e := disk.Open(d)
	if e != api.OK || j == nil {
		t.Fatal("Open", e)
	}
	expectImage(t, d, before)
	if !sameEntries(entries, f.entries) {
		t.Fatalf("the entries are %v instead of %v", entries, f.entries)
	}
	base := 0
	if f.slot >= 0 {
		base = f.base(before)
	}
	expectState(t, j, f.generation, areaSize(before), base, 0)
	for at := -1; at <= areaSize(before); at++ {
		want, parts := f.standing(before, at)
		got, e := j.ReadAt(at)
		if (e == api.OK) != (parts > 0) || e != api.OK && e != api.ErrNone || !bytes.Equal(got, want) {
			t.Fatalf("ReadAt(%d) is %v, %v; want %v of %d parts", at, got, e, want, parts)
		}
	}
	return j, entries
}

// expectState checks what the observers of a journal return.
func expectState(t *testing.T, j *disk.Journal, generation uint64, area, base, free int) {
	t.Helper()
	if j.Generation() != generation || j.Area() != area || j.Base() != base || j.Free() != free {
		t.Fatalf("Generation, Area, Base and Free are %d, %d, %d, %d; want %d, %d, %d, %d", j.Generation(), j.Area(), j.Base(), j.Free(), generation, area, base, free)
	}
}

// expectDead checks that every method of a journal returns a zero value, with an error.
func expectDead(t *testing.T, j *disk.Journal, want api.Errno) {
	t.Helper()
	expectState(t, j, 0, 0, 0, 0)
	for _, list := range [][][]byte{nil, records("a"), {make([]byte, 20001)}} {
		if at, e := j.Rewrite(list); e != want || len(at) != 0 {
			t.Error("Rewrite", at, e)
		}
	}
	for _, n := range []int{0, 1, 20001} {
		if at, e := j.Append(make([]byte, n)); e != want || at != 0 {
			t.Error("Append", at, e)
		}
	}
	for _, at := range []int{-1, 0, 1, 5000} {
		if b, e := j.ReadAt(at); e != want || len(b) != 0 {
			t.Error("ReadAt", b, e)
		}
	}
}

// mustRewrite rewrites and checks the positions and the state.
func mustRewrite(t *testing.T, j *disk.Journal, list [][]byte) {
	t.Helper()
	area := j.Area()
	positions, e := j.Rewrite(list)
	if e != api.OK || len(positions) != len(list) {
		t.Fatal("Rewrite", positions, e)
	}
	at := 0
	for i, r := range list {
		if positions[i] != at {
			t.Fatalf("the position of record %d is %d instead of %d", i, positions[i], at)
		}
		at += max(1, (len(r)+105)/106)
	}
	if j.Free() != area-at {
		t.Fatalf("Free is %d after %d of %d blocks", j.Free(), at, area)
	}
}

// mustAppend appends and checks the position.
func mustAppend(t *testing.T, j *disk.Journal, r []byte) {
	t.Helper()
	free, area := j.Free(), j.Area()
	at, e := j.Append(r)
	if e != api.OK || at != area-free || j.Free() != free-max(1, (len(r)+105)/106) {
		t.Fatalf("Append of %d bytes is %d, %v; Free was %d of %d and is %d", len(r), at, e, free, area, j.Free())
	}
}

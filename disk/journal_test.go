package disk_test

import (
	"bytes"
	"math"
	"math/rand/v2"
	"slices"
	"testing"

	"stolon/api"
	"stolon/disk"
)

// P3.6
func TestCost(t *testing.T) {
	for size := -300; size <= 21000; size++ {
		want := 1
		for 106*want < size {
			want++
		}
		if got := disk.Cost(size); got != want {
			t.Fatalf("Cost(%d) is %d instead of %d", size, got, want)
		}
	}
	if disk.Cost(0) != 1 || disk.Cost(106) != 1 || disk.Cost(107) != 2 || disk.Cost(20000) != 189 {
		t.Error("the example")
	}
	if got := disk.Cost(math.MinInt); got != 1 {
		t.Error(got)
	}
	if got := disk.Cost(math.MaxInt); got != math.MaxInt/106+1 {
		t.Error(got)
	}
}

// P3.7, P3.8: a new disk of each size, and the places of its areas.
func TestAreas(t *testing.T) {
	for _, c := range []struct{ blocks, area int }{{4, 1}, {5, 1}, {6, 2}, {7, 2}, {8, 3}, {9, 3}, {4095, 2046}, {4096, 2047}} {
		d := newDisk(t, c.blocks)
		j, entries, e := disk.Open(d)
		if e != api.OK || len(entries) != 0 {
			t.Fatal("Open", entries, e)
		}
		expectState(t, j, 0, c.area, 0, 0)
		mustRewrite(t, j, nil)
		expectState(t, j, 1, c.area, 2, c.area)
		mustRewrite(t, j, records("x"))
		expectState(t, j, 2, c.area, 2+c.area, c.area-1)
		mustRewrite(t, j, nil)
		expectState(t, j, 3, c.area, 2, c.area)
	}
}

// Examples 2 to 6 of the chapter.
func TestExamples(t *testing.T) {
	d := newDisk(t, 8)
	j, _ := open(t, d)
	expectState(t, j, 0, 3, 0, 0)
	if at, e := j.Append([]byte("a")); e != api.ErrState || at != 0 {
		t.Error(at, e)
	}
	expectImage(t, d, make([]byte, 8*128))
	mustRewrite(t, j, nil)
	want := make([]byte, 8*128)
	setBlock(want, 0, superBlock(1, 0))
	expectImage(t, d, want)
	expectState(t, j, 1, 3, 2, 3)

	mustAppend(t, j, []byte("a"))
	long := randomBytes(1, 200)
	mustAppend(t, j, long)
	if at, e := j.Append([]byte("b")); e != api.ErrFull || at != 0 || j.Free() != 0 {
		t.Error(at, e)
	}
	for i, b := range blocksOf(1, 0, []byte("a"), long) {
		setBlock(want, 2+i, b)
	}
	expectImage(t, d, want)

	k, entries := open(t, d)
	if !sameEntries(entries, []api.Entry{{At: 0, Data: []byte("a")}, {At: 1, Data: long}}) || k.Generation() != 1 {
		t.Error(entries)
	}
	mustRewrite(t, k, records("a", "b"))
	for i, b := range blocksOf(2, 0, []byte("a"), []byte("b")) {
		setBlock(want, 5+i, b)
	}
	setBlock(want, 1, superBlock(2, 1))
	expectImage(t, d, want)
	expectDead(t, j, api.ErrDown)

	d.Arm(0, 20)
	if at, e := k.Append([]byte("c")); e != api.ErrDown || at != 0 {
		t.Error(at, e)
	}
	setBlock(want, 7, blocksOf(2, 2, []byte("c"))[0][:20])
	expectImage(t, d, want)
	d.PowerOn()
	if _, entries := open(t, d); !sameRecords(bytesOf(entries), records("a", "b")) {
		t.Error(entries)
	}
}

// P3.7
func TestOpenErrors(t *testing.T) {
	if j, entries, e := disk.Open(nil); e != api.ErrNil || j != nil || len(entries) != 0 {
		t.Error(j, entries, e)
	}
	d := newDisk(t, 8)
	j, _ := open(t, d)
	mustRewrite(t, j, records("a"))
	d.PowerOff()
	if j, entries, e := disk.Open(d); e != api.ErrDown || j != nil || len(entries) != 0 {
		t.Error(j, entries, e)
	}
}

// P3.7: Open does not write, and so does not come nearer to a prepared loss of power either.
func TestOpenWritesNothing(t *testing.T) {
	d := newDisk(t, 8)
	j, _ := open(t, d)
	mustRewrite(t, j, records("a"))
	d.Arm(0, 0)
	before := d.Image()
	for range 3 {
		j, _ = open(t, d)
	}
	expectImage(t, d, before)
	if d.Down() {
		t.Error("Open was counted as a write")
	}
	if _, e := j.Rewrite(nil); e != api.ErrDown {
		t.Error("Open took back what Arm prepared", e)
	}
}

// P3.7: what makes a superblock valid, and which one is active.
func TestSuperblocks(t *testing.T) {
	bad := superBlock(9, 1)
	bad[127] ^= 1
	badSum := superBlock(9, 1)
	badSum[0] ^= 128
	zero := make([]byte, 128)
	for _, c := range []struct {
		name          string
		first, second []byte
		generation    uint64
		base, slot    int // slot is the block that is not active
	}{
		{"none", zero, zero, 0, 0, 0},
		{"the first alone", superBlock(5, 0), zero, 5, 2, 1},
		{"the second alone", zero, superBlock(5, 0), 5, 2, 0},
		{"the second area", superBlock(5, 1), zero, 5, 5, 1},
		{"the first is greater", superBlock(6, 1), superBlock(5, 0), 6, 5, 1},
		{"the second is greater", superBlock(5, 0), superBlock(6, 1), 6, 5, 0},
		{"much greater", superBlock(255, 0), superBlock(256, 1), 256, 5, 0},
		{"in the highest byte", superBlock(1<<63, 0), superBlock(1, 1), 1 << 63, 2, 1},
		{"both the same", superBlock(5, 0), superBlock(5, 1), 5, 2, 1},
		{"both the same in the second area", superBlock(5, 1), superBlock(5, 0), 5, 5, 1},
		{"generation 0", superBlock(0, 1), zero, 0, 5, 1},
		{"generation 0 in the second", zero, superBlock(0, 1), 0, 5, 0},
		{"generation 0 in both", superBlock(0, 0), superBlock(0, 1), 0, 2, 1},
		{"a changed byte", superBlock(5, 0), bad, 5, 2, 1},
		{"a changed checksum", superBlock(5, 0), badSum, 5, 2, 1},
		{"a checksum of zeros", superBlock(5, 0), append(make([]byte, 4), superBlock(9, 1)[4:]...), 5, 2, 1},
		{"area 2", superBlock(5, 0), changed(superBlock(9, 1), 16, 2), 5, 2, 1},
		{"area 255", superBlock(5, 0), changed(superBlock(9, 1), 16, 255), 5, 2, 1},
		{"a wrong mark", superBlock(5, 0), changed(superBlock(9, 1), 4, 'T'), 5, 2, 1},
		{"a wrong end of the mark", superBlock(5, 0), changed(superBlock(9, 1), 7, 'l'), 5, 2, 1},
		{"a byte 17", superBlock(5, 0), changed(superBlock(9, 1), 17, 1), 9, 5, 0},
		{"a byte 127", changed(superBlock(9, 1), 127, 255), superBlock(5, 0), 9, 5, 1},
		{"both bad", bad, badSum, 0, 0, 0},
	} {
		t.Run(c.name, func(t *testing.T) {
			image := make([]byte, 8*128)
			setBlock(image, 0, c.first)
			setBlock(image, 1, c.second)
			d := loadDisk(t, image)
			j, entries := open(t, d)
			if len(entries) != 0 {
				t.Error(entries)
			}
			expectState(t, j, c.generation, 3, c.base, 0)
			mustRewrite(t, j, nil)
			// The next superblock lies in the other block and names the other area.
			area := 0
			if c.base == 2 {
				area = 1
			}
			setBlock(image, c.slot, superBlock(c.generation+1, area))
			expectImage(t, d, image)
		})
	}
}

// oneLog returns an image whose current area 0 (of three blocks), of generation 5, has the given block at position 1.
func oneLog(b []byte) []byte {
	image := make([]byte, 8*128)
	setBlock(image, 0, superBlock(5, 0))
	setBlock(image, 3, b)
	return image
}

// P3.7: what makes a log block valid.
func TestLogBlocks(t *testing.T) {
	full := string(randomBytes(2, 106))
	good := logBlock(5, 1, 0, 1, "abc")
	bad := slices.Clone(good)
	bad[24] ^= 2
	badSum := slices.Clone(good)
	badSum[3] ^= 1
	for _, c := range []struct {
		name string
		b    []byte
		want [][]byte
	}{
		{"good", good, records("abc")},
		{"no data", logBlock(5, 1, 0, 1, ""), records("")},
		{"full", logBlock(5, 1, 0, 1, full), records(full)},
		{"bytes after the data", changed(good, 127, 7), records("abc")},
		{"a byte directly after the data", changed(good, 25, 7), records("abc")},
		{"too long", changed(logBlock(5, 1, 0, 1, full), 21, 107), nil},
		{"much too long", changed(good, 20, 1), nil},
		{"a changed byte", bad, nil},
		{"a changed checksum", badSum, nil},
		{"an earlier generation", logBlock(4, 1, 0, 1, "abc"), nil},
		{"a later generation", logBlock(6, 1, 0, 1, "abc"), nil},
		{"another generation in the high byte", changed(good, 4, 1), nil},
		{"the position before", logBlock(5, 0, 0, 1, "abc"), nil},
		{"the position after", logBlock(5, 2, 0, 1, "abc"), nil},
		{"another position in the high byte", changed(good, 12, 1), nil},
		{"no parts", logBlock(5, 1, 0, 0, "abc"), nil},
		{"a part beyond the parts", logBlock(5, 1, 1, 1, "abc"), nil},
		{"a second part alone", logBlock(5, 1, 1, 2, "abc"), nil},
		{"a first part alone", logBlock(5, 1, 0, 2, "abc"), nil},
		{"more parts than the area has", logBlock(5, 1, 0, 65535, "abc"), nil},
		{"256 parts", logBlock(5, 1, 0, 256, "abc"), nil},
		{"the part 256", logBlock(5, 1, 256, 257, "abc"), nil},
	} {
		t.Run(c.name, func(t *testing.T) {
			_, entries := open(t, loadDisk(t, oneLog(c.b)))
			if !sameRecords(bytesOf(entries), c.want) {
				t.Error(entries)
			}
			if len(entries) == 1 && entries[0].At != 1 {
				t.Error(entries)
			}
		})
	}
}

// P3.7: where a record stands. Each block of the current area is given; the entries follow.
func TestStandingRecords(t *testing.T) {
	none := make([]byte, 128)
	for _, c := range []struct {
		name string
		area [][]byte
		want []api.Entry
	}{
		{"empty", [][]byte{none, none, none, none}, nil},
		{"in order", blocksOf(5, 0, records("a", "", "c", "d")...), []api.Entry{{At: 0, Data: []byte("a")}, {At: 1}, {At: 2, Data: []byte("c")}, {At: 3, Data: []byte("d")}}},
		{"after a gap", [][]byte{none, logBlock(5, 1, 0, 1, "b"), none, logBlock(5, 3, 0, 1, "d")}, []api.Entry{{At: 1, Data: []byte("b")}, {At: 3, Data: []byte("d")}}},
		{"parts of any length", [][]byte{logBlock(5, 0, 0, 3, "ab"), logBlock(5, 1, 1, 3, ""), logBlock(5, 2, 2, 3, "c"), none}, []api.Entry{{At: 0, Data: []byte("abc")}}},
		{"to the end", [][]byte{none, logBlock(5, 1, 0, 3, "x"), logBlock(5, 2, 1, 3, "y"), logBlock(5, 3, 2, 3, "z")}, []api.Entry{{At: 1, Data: []byte("xyz")}}},
		{"beyond the end", [][]byte{none, none, logBlock(5, 2, 0, 3, "x"), logBlock(5, 3, 1, 3, "y")}, nil},
		{"a gap in it", [][]byte{logBlock(5, 0, 0, 3, "x"), none, logBlock(5, 2, 2, 3, "z"), logBlock(5, 3, 0, 1, "d")}, []api.Entry{{At: 3, Data: []byte("d")}}},
		{"a wrong order", [][]byte{logBlock(5, 0, 0, 3, "x"), logBlock(5, 1, 2, 3, "z"), logBlock(5, 2, 1, 3, "y"), none}, nil},
		{"another number of parts", [][]byte{logBlock(5, 0, 0, 2, "x"), logBlock(5, 1, 1, 3, "y"), logBlock(5, 2, 2, 3, "z"), none}, nil},
		{"another generation", [][]byte{logBlock(5, 0, 0, 2, "x"), logBlock(4, 1, 1, 2, "y"), none, none}, nil},
		{"a record within another", [][]byte{logBlock(5, 0, 0, 3, "x"), logBlock(5, 1, 0, 1, "in"), logBlock(5, 2, 2, 3, "z"), none}, []api.Entry{{At: 1, Data: []byte("in")}}},
		{"begun twice", [][]byte{logBlock(5, 0, 0, 2, "x"), logBlock(5, 1, 0, 2, "y"), logBlock(5, 2, 1, 2, "z"), none}, []api.Entry{{At: 1, Data: []byte("yz")}}},
		{"without its first part", [][]byte{none, logBlock(5, 1, 1, 2, "y"), logBlock(5, 2, 0, 2, "v"), logBlock(5, 3, 1, 2, "w")}, []api.Entry{{At: 2, Data: []byte("vw")}}},
		{"a last part at the end", [][]byte{none, none, none, logBlock(5, 3, 0, 2, "v")}, nil},
	} {
		t.Run(c.name, func(t *testing.T) {
			for area := range 2 {
				image := make([]byte, 10*128)
				setBlock(image, 1, superBlock(5, area))
				for i, b := range c.area {
					setBlock(image, 2+4*area+i, b)
					// The same block, of another generation, in the other area is no part of the content.
					setBlock(image, 6-4*area+i, changed(b, 4, 0))
				}
				_, entries := open(t, loadDisk(t, image))
				if !sameEntries(entries, c.want) {
					t.Error(area, entries)
				}
			}
		})
	}
}

// P3.7: a record of area 0 does not go on in area 1, and the block after the areas belongs to none.
func TestAreasAreApart(t *testing.T) {
	image := make([]byte, 7*128)
	setBlock(image, 0, superBlock(5, 0))
	setBlock(image, 3, logBlock(5, 1, 0, 2, "x"))
	setBlock(image, 4, logBlock(5, 2, 1, 2, "y"))
	setBlock(image, 5, logBlock(5, 1, 0, 1, "other"))
	if _, entries := open(t, loadDisk(t, image)); len(entries) != 0 {
		t.Error(entries)
	}
	setBlock(image, 0, superBlock(5, 1))
	setBlock(image, 5, logBlock(5, 1, 0, 2, "x"))
	setBlock(image, 6, logBlock(5, 2, 1, 2, "y"))
	if _, entries := open(t, loadDisk(t, image)); len(entries) != 0 {
		t.Error(entries)
	}
	setBlock(image, 6, logBlock(900, 2, 0, 1, "x"))
	j, _ := open(t, loadDisk(t, image))
	mustRewrite(t, j, nil)
	if j.Generation() != 6 {
		t.Error(j.Generation())
	}
}

// P3.7, P3.9: the next generation is one more than the greatest of all valid blocks.
func TestNextGeneration(t *testing.T) {
	bad := logBlock(99, 0, 0, 1, "")
	bad[50] ^= 1
	for _, c := range []struct {
		name string
		at   int
		b    []byte
		next uint64
	}{
		{"nothing more", 2, make([]byte, 128), 8},
		{"the other superblock", 0, superBlock(6, 0), 8},
		{"a smaller one in area 0", 2, logBlock(6, 0, 0, 1, ""), 8},
		{"the same", 2, logBlock(7, 0, 0, 1, ""), 8},
		{"a greater one in area 0", 2, logBlock(8, 0, 0, 1, ""), 9},
		{"a greater one at the end of area 0", 4, logBlock(300, 2, 1, 2, "x"), 301},
		{"a greater one in area 1", 5, logBlock(8, 0, 0, 1, ""), 9},
		{"a greater one at the end of area 1", 7, logBlock(1<<40, 2, 4, 7, ""), 1<<40 + 1},
		{"one at a wrong position", 3, logBlock(99, 0, 0, 1, ""), 8},
		{"one with a position counted over both areas", 5, logBlock(99, 3, 0, 1, ""), 8},
		{"one with a wrong checksum", 2, bad, 8},
		{"one without parts", 2, logBlock(99, 0, 0, 0, ""), 8},
		{"one beyond its parts", 2, logBlock(99, 0, 3, 3, ""), 8},
		{"one that is too long", 2, changed(logBlock(99, 0, 0, 1, ""), 21, 107), 8},
		{"a superblock that is not valid", 0, changed(superBlock(99, 0), 16, 2), 8},
		{"the last but one of all", 2, logBlock(math.MaxUint64-1, 0, 0, 1, ""), math.MaxUint64},
	} {
		t.Run(c.name, func(t *testing.T) {
			image := make([]byte, 8*128)
			setBlock(image, 1, superBlock(7, 0))
			setBlock(image, c.at, c.b)
			d := loadDisk(t, image)
			j, _ := open(t, d)
			expectState(t, j, 7, 3, 2, 0)
			mustRewrite(t, j, records("a"))
			expectState(t, j, c.next, 3, 5, 2)
			setBlock(image, 5, logBlock(c.next, 0, 0, 1, "a"))
			setBlock(image, 0, superBlock(c.next, 1))
			expectImage(t, d, image)
		})
	}
}

// P3.7: without superblocks the log blocks alone decide the next generation, and there is no content.
func TestNextGenerationWithoutSuperblocks(t *testing.T) {
	image := make([]byte, 8*128)
	setBlock(image, 2, logBlock(0, 0, 0, 1, "a"))
	setBlock(image, 6, logBlock(41, 1, 0, 1, "b"))
	d := loadDisk(t, image)
	j, entries := open(t, d)
	if len(entries) != 0 {
		t.Error(entries)
	}
	expectState(t, j, 0, 3, 0, 0)
	mustRewrite(t, j, nil)
	expectState(t, j, 42, 3, 2, 3)
	setBlock(image, 0, superBlock(42, 0))
	expectImage(t, d, image)
}

// P3.9: after the last generation there is none.
func TestLastGeneration(t *testing.T) {
	full := func(j *disk.Journal, d *disk.Disk) {
		t.Helper()
		before := d.Image()
		for _, list := range [][][]byte{nil, records("a")} {
			if at, e := j.Rewrite(list); e != api.ErrFull || len(at) != 0 {
				t.Error(at, e)
			}
		}
		if at, e := j.Rewrite([][]byte{make([]byte, 20001)}); e != api.ErrLong || len(at) != 0 {
			t.Error(at, e)
		}
		expectImage(t, d, before)
	}
	image := make([]byte, 8*128)
	setBlock(image, 0, superBlock(math.MaxUint64-1, 1))
	d := loadDisk(t, image)
	j, _ := open(t, d)
	mustRewrite(t, j, records("a"))
	expectState(t, j, math.MaxUint64, 3, 2, 2)
	full(j, d)
	expectState(t, j, math.MaxUint64, 3, 2, 2)
	mustAppend(t, j, []byte("b"))
	j, entries := open(t, d)
	if !sameRecords(bytesOf(entries), records("a", "b")) {
		t.Error(entries)
	}
	full(j, d)

	image = make([]byte, 8*128)
	setBlock(image, 7, logBlock(math.MaxUint64, 2, 0, 1, ""))
	d = loadDisk(t, image)
	j, _ = open(t, d)
	full(j, d)
	if _, e := j.Append(nil); e != api.ErrState {
		t.Error(e)
	}
}

// P3.9: the exact bytes of several Rewrites one after another.
func TestRewriteBytes(t *testing.T) {
	want := randomBytes(3, 21*128)
	d := loadDisk(t, want)
	j, _ := open(t, d)
	for g := range 6 {
		list := [][]byte{randomBytes(uint64(g), 106*g), nil, []byte("middle"), randomBytes(uint64(50+g), g)}
		mustRewrite(t, j, list)
		for i, b := range blocksOf(uint64(g+1), 0, list...) {
			setBlock(want, 2+9*(g%2)+i, b)
		}
		setBlock(want, g%2, superBlock(uint64(g+1), g%2))
		expectImage(t, d, want)
		expectState(t, j, uint64(g+1), 9, 2+9*(g%2), 9-len(blocksOf(1, 0, list...)))
		// What Open finds is what the journal had in mind.
		if g == 2 {
			j, _ = open(t, d)
		}
	}
}

// P3.10: the exact bytes of several Appends.
func TestAppendBytes(t *testing.T) {
	d := newDisk(t, 4096)
	j, _ := open(t, d)
	mustRewrite(t, j, records("first"))
	mustRewrite(t, j, records("first", "second"))
	want := d.Image()
	at := 2
	for i, n := range []int{0, 1, 105, 106, 107, 211, 212, 213, 10000, 20000} {
		r := randomBytes(uint64(i), n)
		mustAppend(t, j, r)
		for _, b := range blocksOf(2, at, r) {
			setBlock(want, 2+2047+at, b)
			at++
		}
		expectImage(t, d, want)
		if b, e := j.ReadAt(at - disk.Cost(n)); e != api.OK || !bytes.Equal(b, r) {
			t.Error("ReadAt", n, e)
		}
	}
	if j.Free() != 2047-at || j.Generation() != 2 {
		t.Error(j.Free(), at)
	}
	mustAppend(t, j, nil)
}

// P3.9, R1, R2: the errors, in their order; nothing is written, and everything stays.
func TestRewriteErrors(t *testing.T) {
	d := newDisk(t, 12)
	j, _ := open(t, d)
	mustRewrite(t, j, records("a", "b"))
	mustAppend(t, j, []byte("c"))
	before := d.Image()
	long := make([]byte, 20001)
	for _, c := range []struct {
		name string
		list [][]byte
		want api.Errno
	}{
		{"a long record", [][]byte{long}, api.ErrLong},
		{"a long record at the end", [][]byte{nil, nil, long}, api.ErrLong},
		{"a long record after too many", append(records("1", "2", "3", "4", "5", "6"), long), api.ErrLong},
		{"a much longer one", [][]byte{make([]byte, 100000)}, api.ErrLong},
		{"a record that is as long as it may be", [][]byte{long[1:]}, api.ErrFull},
		{"six records", records("1", "2", "3", "4", "5", "6"), api.ErrFull},
		{"six empty records", make([][]byte, 6), api.ErrFull},
		{"one of six blocks", [][]byte{make([]byte, 531)}, api.ErrFull},
		{"six blocks together", [][]byte{make([]byte, 107), make([]byte, 319)}, api.ErrFull},
	} {
		if at, e := j.Rewrite(c.list); e != c.want || len(at) != 0 {
			t.Error(c.name, at, e)
		}
		expectImage(t, d, before)
		expectState(t, j, 1, 5, 2, 2)
	}
	mustAppend(t, j, []byte("d"))
	mustRewrite(t, j, [][]byte{make([]byte, 530)})
	mustRewrite(t, j, make([][]byte, 5))
	expectState(t, j, 3, 5, 2, 0)
	// The errors do not need a Rewrite that has succeeded.
	k, _ := open(t, d)
	if _, e := k.Rewrite([][]byte{long}); e != api.ErrLong {
		t.Error(e)
	}
	if _, e := k.Rewrite(make([][]byte, 6)); e != api.ErrFull {
		t.Error(e)
	}
	if _, e := k.Append(nil); e != api.ErrState {
		t.Error("a Rewrite with an error has succeeded", e)
	}
}

// P3.10, R1, R2
func TestAppendErrors(t *testing.T) {
	d := newDisk(t, 8)
	j, _ := open(t, d)
	long := make([]byte, 20001)
	state := func() {
		t.Helper()
		before := d.Image()
		for _, n := range []int{0, 1, 400, 20001} {
			if at, e := j.Append(long[:n]); e != api.ErrState || at != 0 {
				t.Error(n, at, e)
			}
		}
		expectImage(t, d, before)
	}
	state()
	mustRewrite(t, j, records("a"))
	before := d.Image()
	for _, c := range []struct {
		n    int
		want api.Errno
	}{{20001, api.ErrLong}, {20000, api.ErrFull}, {213, api.ErrFull}, {319, api.ErrFull}} {
		if at, e := j.Append(long[:c.n]); e != c.want || at != 0 {
			t.Error(c, at, e)
		}
		expectImage(t, d, before)
		expectState(t, j, 1, 3, 2, 2)
	}
	mustAppend(t, j, long[:212])
	if at, e := j.Append(nil); e != api.ErrFull || at != 0 {
		t.Error(at, e)
	}
	if at, e := j.Append(long); e != api.ErrLong || at != 0 {
		t.Error(at, e)
	}
	// A journal that Open returns has not written anything itself.
	j, _ = open(t, d)
	state()
}

// P3.11
func TestReadAt(t *testing.T) {
	d := newDisk(t, 20)
	j, _ := open(t, d)
	for _, at := range []int{-1, 0, 1, 8, 9} {
		if b, e := j.ReadAt(at); e != api.ErrNone || len(b) != 0 {
			t.Error("without an area", at, b, e)
		}
	}
	two := randomBytes(4, 200)
	mustRewrite(t, j, [][]byte{[]byte("a"), two, nil})
	mustAppend(t, j, []byte("d"))
	read := func(j *disk.Journal, wanted map[int][]byte) {
		t.Helper()
		for at := -2; at < 12; at++ {
			want, stands := wanted[at]
			got, e := j.ReadAt(at)
			if stands != (e == api.OK) || !stands && e != api.ErrNone || !bytes.Equal(got, want) {
				t.Error(at, got, e)
			}
		}
		for _, at := range []int{math.MinInt, math.MaxInt, 65536, 1 << 32} {
			if b, e := j.ReadAt(at); e != api.ErrNone || len(b) != 0 {
				t.Error(at, b, e)
			}
		}
	}
	read(j, map[int][]byte{0: []byte("a"), 1: two, 3: nil, 4: []byte("d")})
	k, _ := open(t, d)
	read(k, map[int][]byte{0: []byte("a"), 1: two, 3: nil, 4: []byte("d")})
	// The log blocks are read from the disk each time.
	d.Rot(4, 100, 1)
	read(k, map[int][]byte{0: []byte("a"), 3: nil, 4: []byte("d")})
	d.Rot(4, 100, 1)
	d.Write(2, logBlock(1, 0, 0, 1, "new"))
	d.Write(9, logBlock(1, 7, 0, 1, "more"))
	read(k, map[int][]byte{0: []byte("new"), 1: two, 3: nil, 4: []byte("d"), 7: []byte("more")})
	d.Wipe()
	read(k, nil)
}

// P3.8 to P3.11: what happens to the superblocks after Open has no effect on a journal.
func TestJournalKeepsItsSuperblockInMind(t *testing.T) {
	for _, c := range []struct {
		name string
		call func(d *disk.Disk)
	}{
		{"Wipe", func(d *disk.Disk) { d.Wipe() }},
		{"Rot", func(d *disk.Disk) { d.Rot(0, 9, 1); d.Rot(1, 9, 1) }},
		{"Write", func(d *disk.Disk) { d.Write(0, superBlock(90, 1)); d.Write(1, superBlock(91, 0)) }},
	} {
		for _, wrote := range []bool{false, true} {
			t.Run(c.name, func(t *testing.T) {
				d := newDisk(t, 8)
				j, _ := open(t, d)
				mustRewrite(t, j, nil)
				mustRewrite(t, j, records("a"))
				free := 2
				if !wrote {
					j, _ = open(t, d)
					free = 0
				}
				c.call(d)
				expectState(t, j, 2, 3, 5, free)
				if wrote {
					mustAppend(t, j, []byte("b"))
					if b, e := j.ReadAt(1); e != api.OK || string(b) != "b" {
						t.Error(b, e)
					}
				}
				mustRewrite(t, j, records("c"))
				expectState(t, j, 3, 3, 2, 2)
				image := d.Image()
				if !bytes.Equal(getBlock(image, 0), superBlock(3, 0)) || !bytes.Equal(getBlock(image, 2), logBlock(3, 0, 0, 1, "c")) {
					t.Error("the Rewrite went somewhere else")
				}
			})
		}
	}
}

// P3.7: a journal is live until the power is lost or the disk is opened again.
func TestLiveJournals(t *testing.T) {
	opened := func(t *testing.T) (*disk.Disk, *disk.Journal) {
		d := newDisk(t, 8)
		j, _ := open(t, d)
		mustRewrite(t, j, records("a"))
		return d, j
	}
	for _, c := range []struct {
		name string
		call func(d *disk.Disk)
		live bool
	}{
		{"nothing", func(d *disk.Disk) {}, true},
		{"PowerOff", func(d *disk.Disk) { d.PowerOff() }, false},
		{"PowerOff twice", func(d *disk.Disk) { d.PowerOff(); d.PowerOff() }, false},
		{"PowerOff and PowerOn", func(d *disk.Disk) { d.PowerOff(); d.PowerOn() }, false},
		{"a failed Open between them", func(d *disk.Disk) { d.PowerOff(); disk.Open(d); d.PowerOn() }, false},
		{"PowerOff twice and PowerOn", func(d *disk.Disk) { d.PowerOff(); d.PowerOff(); d.PowerOn() }, false},
		{"twice PowerOff and PowerOn", func(d *disk.Disk) { d.PowerOff(); d.PowerOn(); d.PowerOff(); d.PowerOn() }, false},
		{"PowerOn", func(d *disk.Disk) { d.PowerOn() }, true},
		{"a torn Write", func(d *disk.Disk) { d.Arm(0, 0); d.Write(7, make([]byte, 128)) }, false},
		{"a torn Write and PowerOn", func(d *disk.Disk) { d.Arm(0, 128); d.Write(7, make([]byte, 128)); d.PowerOn() }, false},
		{"Open", func(d *disk.Disk) { disk.Open(d) }, false},
		{"Open, PowerOff and PowerOn", func(d *disk.Disk) { disk.Open(d); d.PowerOff(); d.PowerOn() }, false},
		{"Open of nil", func(d *disk.Disk) { disk.Open(nil) }, true},
		{"Open of another disk", func(d *disk.Disk) { other, _ := disk.LoadDisk(d.Image()); disk.Open(other) }, true},
		{"Arm, Write, Rot", func(d *disk.Disk) { d.Arm(1, 5); d.Write(7, make([]byte, 128)); d.Rot(7, 0, 1) }, true},
		{"Arm and PowerOn", func(d *disk.Disk) { d.Arm(0, 5); d.PowerOn() }, true},
	} {
		t.Run(c.name, func(t *testing.T) {
			d, j := opened(t)
			c.call(d)
			if !c.live {
				before := d.Image()
				expectDead(t, j, api.ErrDown)
				expectImage(t, d, before)
				return
			}
			expectState(t, j, 1, 3, 2, 2)
			if b, e := j.ReadAt(0); e != api.OK || string(b) != "a" {
				t.Error(b, e)
			}
		})
	}
}

// P3.9, P3.10: after a write that failed, the journal is not live any more.
func TestTornCallsReturnTheError(t *testing.T) {
	for after := range 4 {
		for _, call := range []string{"Rewrite", "Append"} {
			d := newDisk(t, 12)
			j, _ := open(t, d)
			mustRewrite(t, j, records("a"))
			d.Arm(after, 64)
			if call == "Rewrite" {
				at, e := j.Rewrite([][]byte{nil, make([]byte, 107)})
				if e != api.ErrDown || len(at) != 0 {
					t.Error(after, at, e)
				}
			} else {
				at, e := j.Append(make([]byte, 400))
				if e != api.ErrDown || at != 0 {
					t.Error(after, at, e)
				}
			}
			if !d.Down() {
				t.Error(call, after, "the power is there")
			}
			expectDead(t, j, api.ErrDown)
			d.PowerOn()
			expectDead(t, j, api.ErrDown)
		}
	}
}

// R3
func TestNilJournal(t *testing.T) {
	var j *disk.Journal
	expectDead(t, j, api.ErrNil)
}

// P3.7 to P3.11, R4: arguments are not kept, and results share nothing.
func TestJournalSharesNothing(t *testing.T) {
	d := newDisk(t, 12)
	j, _ := open(t, d)
	list := records("alpha", "beta")
	positions, _ := j.Rewrite(list)
	record := []byte("gamma")
	j.Append(record)
	if !sameRecords(list, records("alpha", "beta")) || string(record) != "gamma" {
		t.Error("an argument was changed")
	}
	clear(list[0])
	clear(record)
	clear(positions)
	b, _ := j.ReadAt(0)
	clear(b)
	if b, e := j.ReadAt(0); e != api.OK || string(b) != "alpha" {
		t.Error(b, e)
	}
	_, entries := open(t, d)
	for _, e := range entries {
		clear(e.Data)
		_ = append(e.Data, "XXXXXXXX"...)
	}
	if _, entries := open(t, d); !sameRecords(bytesOf(entries), records("alpha", "beta", "gamma")) {
		t.Error(entries)
	}
}

// P3.7, P3.11: an image of random blocks, many of them valid, is read as the reference reads it.
func TestOpenAgainstTheReference(t *testing.T) {
	random := rand.New(rand.NewPCG(2, 2))
	standing := 0
	for range 4000 {
		blocks := 4 + random.IntN(12)
		image := make([]byte, 128*blocks)
		area := areaSize(image)
		for slot := range 2 {
			if random.IntN(4) > 0 {
				setBlock(image, slot, superBlock(uint64(1+random.IntN(2)), random.IntN(2)+random.IntN(12)/11))
			}
		}
		for i := 0; i < 2*area; {
			g := uint64(1 + random.IntN(8)/5)
			parts := 1 + random.IntN(3)
			for number := 0; number < parts && i < 2*area; number++ {
				b := logBlock(g, i%area, number, parts, string(randomBytes(random.Uint64(), random.IntN(107))))
				if random.IntN(12) == 0 {
					b[random.IntN(128)] ^= 4
				}
				if random.IntN(12) == 0 {
					b = changed(b, 4+random.IntN(18), byte(random.IntN(4)))
				}
				setBlock(image, 2+i, b)
				i += 1 + random.IntN(9)/8
			}
		}
		j, entries := open(t, loadDisk(t, image))
		standing += len(entries)
		f := look(image)
		mustRewrite(t, j, nil)
		if want := f.greatest + 1; j.Generation() != want {
			t.Fatalf("the generation is %d instead of %d", j.Generation(), want)
		}
	}
	if standing < 1000 {
		t.Error("too few records stand:", standing)
	}
}

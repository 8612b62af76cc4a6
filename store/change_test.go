package store_test

import (
	"bytes"
	"encoding/binary"
	"hash/crc32"
	"slices"
	"testing"

	"stolon/api"
	"stolon/disk"
	"stolon/store"
)

// P4.2, example 1: Raise changes the incarnation only if it is not greater already.
func TestRaise(t *testing.T) {
	d := newDisk(t, 10)
	s := open(t, d, 0)
	expect(t, "Raise(0)", s.Raise(0), api.OK)
	expectJournal(t, d, incRecord(1))
	expect(t, "Raise(1)", s.Raise(1), api.OK)
	expectJournal(t, d, incRecord(1), incRecord(2))
	expect(t, "Raise(1) again", s.Raise(1), api.OK)
	if s.Incarnation() != 2 {
		t.Error(s.Incarnation())
	}
	expect(t, "Raise(7)", s.Raise(7), api.OK)
	if s.Incarnation() != 8 {
		t.Error(s.Incarnation())
	}
	expect(t, "Raise(7) again", s.Raise(7), api.OK)
	expectJournal(t, d, incRecord(1), incRecord(2), incRecord(8))
	if s = open(t, d, 0); s.Incarnation() != 9 {
		t.Error(s.Incarnation())
	}
}

// P4.2, P4.10: there is no incarnation above 2^64 - 1, and with that one the store can not be opened any more.
func TestRaiseToTheGreatest(t *testing.T) {
	d := newDisk(t, 2)
	s := open(t, d, 0)
	expect(t, "Raise", s.Raise(greatest), api.ErrFull)
	if s.Incarnation() != 1 {
		t.Error(s.Incarnation())
	}
	expectJournal(t, d, incRecord(1))
	expect(t, "Raise", s.Raise(greatest-1), api.OK)
	if s.Incarnation() != greatest {
		t.Error(s.Incarnation())
	}
	expect(t, "Raise again", s.Raise(greatest-1), api.OK)
	expect(t, "Raise", s.Raise(greatest), api.ErrFull)
	expect(t, "Compact", s.Compact(), api.OK)
	expectJournal(t, d, incRecord(greatest))
}

// P4.3: Put appends a piece record.
func TestPut(t *testing.T) {
	d := newDisk(t, 30)
	s := open(t, d, 1000)
	a := newItem(t, 1, 1, 1, "one block")
	b := newItem(t, 2, 3, 4, "several blocks")
	empty := newItem(t, 3, 4, 5, "")
	put(t, s, b, 3)
	put(t, s, a, 0)
	put(t, s, empty, 2)
	expectHeld(t, s, a, b, empty)
	expectPiece(t, s, a, 0)
	expectPiece(t, s, b, 3)
	expectPiece(t, s, empty, 2)
	expectJournal(t, d, incRecord(1), pieceRecord(b, 3), pieceRecord(a, 0), pieceRecord(empty, 2))
	if s.Used() != 9+7 || s.Free() != 30-1-2-1-2 {
		t.Error(s.Used(), s.Free())
	}
	s = open(t, d, 0)
	expectHeld(t, s, a, b, empty)
	expectPiece(t, s, b, 3)
}

// P4.3, R1, R2, examples 2 and 3: the errors of Put, in their order.
func TestPutErrors(t *testing.T) {
	d := newDisk(t, 3)
	s := open(t, d, 10)
	l := newItems(t, 3)
	held, gone, next := l[0], l[1], l[2]
	put(t, s, held, 0)
	expect(t, "Bury", s.Bury(gone.id), api.OK)
	if s.Free() != 0 || s.Used() != 10 {
		t.Fatal(s.Free(), s.Used())
	}
	large := newItem(t, 1, 1, 1, "one byte mo")
	before := d.Image()
	edited := func(it item, edit func(m *api.Manifest, p *api.Piece)) (api.Manifest, api.Piece) {
		m, p := it.m, api.Piece{Index: 0, Data: slices.Clone(it.pieces[0].Data)}
		m.Pieces = slices.Clone(m.Pieces)
		edit(&m, &p)
		return m, p
	}
	for _, it := range []item{held, gone, next} {
		for want, edit := range map[api.Errno]func(m *api.Manifest, p *api.Piece){
			api.ErrArg:   func(m *api.Manifest, p *api.Piece) { m.K, p.Data = 0, nil },
			api.ErrShape: func(m *api.Manifest, p *api.Piece) { p.Data = p.Data[1:] },
			api.ErrSum:   func(m *api.Manifest, p *api.Piece) { p.Data[0]++ },
		} {
			m, p := edited(it, edit)
			expect(t, "Put of a wrong piece", s.Put(m, p), want)
		}
		for _, index := range []int{-1, 1, 1 << 16, -1 << 63} {
			m, p := edited(it, func(m *api.Manifest, p *api.Piece) { p.Index = index })
			expect(t, "Put with another Index", s.Put(m, p), api.ErrArg)
		}
		m, p := edited(it, func(m *api.Manifest, p *api.Piece) { m.Pieces = nil })
		expect(t, "Put without digests", s.Put(m, p), api.ErrArg)
	}
	expect(t, "Put of nothing", s.Put(api.Manifest{}, api.Piece{}), api.ErrArg)
	expect(t, "Put of a buried object", s.Put(gone.m, gone.pieces[0]), api.ErrGone)
	expect(t, "Put of a held object", s.Put(held.m, held.pieces[0]), api.ErrTwice)
	expect(t, "Put above the quota", s.Put(next.m, next.pieces[0]), api.ErrQuota)
	expect(t, "Put above the quota", s.Put(large.m, large.pieces[0]), api.ErrQuota)
	if !bytes.Equal(d.Image(), before) {
		t.Error("a Put that failed has changed the disk")
	}
	expectHeld(t, s, held)
	expectGraves(t, s, gone)
	if s.Used() != 10 {
		t.Error(s.Used())
	}
}

// P4.3: the quota counts the bytes of the Data alone, and a piece that fits exactly is put.
func TestQuota(t *testing.T) {
	d := newDisk(t, 30)
	s := open(t, d, 10)
	six, five, four, empty := newItem(t, 1, 1, 1, "sixsix"), newItem(t, 1, 1, 1, "fives"), newItem(t, 1, 1, 1, "four"), newItem(t, 1, 1, 1, "")
	put(t, s, six, 0)
	expect(t, "Put above the quota", s.Put(five.m, five.pieces[0]), api.ErrQuota)
	put(t, s, four, 0)
	put(t, s, empty, 0)
	if s.Used() != 10 {
		t.Error(s.Used())
	}
	expect(t, "Drop", s.Drop(six.id), api.OK)
	put(t, s, five, 0)
	expect(t, "Put above the quota", s.Put(six.m, six.pieces[0]), api.ErrQuota)
	expect(t, "Bury", s.Bury(four.id), api.OK)
	expect(t, "Put above the quota", s.Put(six.m, six.pieces[0]), api.ErrQuota)
	expect(t, "Bury", s.Bury(five.id), api.OK)
	put(t, s, six, 0)
	if s.Used() != 6 {
		t.Error(s.Used())
	}
	s = open(t, newDisk(t, 3), 0)
	put(t, s, empty, 0)
	expect(t, "Put above the quota 0", s.Put(four.m, four.pieces[0]), api.ErrQuota)
}

// P4.3: another piece of a held object is refused; after a Drop it is put.
func TestAnotherPieceOfAnObject(t *testing.T) {
	d := newDisk(t, 30)
	s := open(t, d, 100)
	it := newItem(t, 2, 3, 4, "an object")
	put(t, s, it, 2)
	expect(t, "Put of another piece", s.Put(it.m, it.pieces[0]), api.ErrTwice)
	expectPiece(t, s, it, 2)
	expect(t, "Drop", s.Drop(it.id), api.OK)
	put(t, s, it, 0)
	expectPiece(t, s, it, 0)
	s = open(t, d, 100)
	expectPiece(t, s, it, 0)
}

// P4.5: Drop appends a drop record.
func TestDrop(t *testing.T) {
	d := newDisk(t, 30)
	s := open(t, d, 100)
	l := newItems(t, 2)
	put(t, s, l[0], 0)
	expect(t, "Drop of another object", s.Drop(l[1].id), api.ErrNone)
	expect(t, "Drop of no object", s.Drop(api.Digest{}), api.ErrNone)
	put(t, s, l[1], 0)
	expect(t, "Drop", s.Drop(l[0].id), api.OK)
	expect(t, "Drop again", s.Drop(l[0].id), api.ErrNone)
	expectHeld(t, s, l[1])
	expectGraves(t, s)
	expectNoPiece(t, s, l[0].id, api.ErrNone)
	if s.Holds(l[0].id) || s.Used() != 10 || s.Free() != 26 {
		t.Error(s.Used(), s.Free())
	}
	expectJournal(t, d, incRecord(1), pieceRecord(l[0], 0), pieceRecord(l[1], 0), dropRecord(l[0].id))
	s = open(t, d, 100)
	expectHeld(t, s, l[1])
	expect(t, "Bury", s.Bury(l[1].id), api.OK)
	expect(t, "Drop of a buried object", s.Drop(l[1].id), api.ErrNone)
}

// P4.5, example 2: Bury appends a grave record, also for an object that is not held, and only once.
func TestBury(t *testing.T) {
	d := newDisk(t, 30)
	s := open(t, d, 100)
	l := newItems(t, 3)
	put(t, s, l[0], 0)
	put(t, s, l[1], 0)
	for range 2 {
		expect(t, "Bury of a held object", s.Bury(l[1].id), api.OK)
		expect(t, "Bury of another object", s.Bury(l[2].id), api.OK)
		expect(t, "Bury of no object", s.Bury(api.Digest{}), api.OK)
	}
	expectHeld(t, s, l[0])
	expectGraves(t, s, l[1], l[2], item{})
	expectNoPiece(t, s, l[1].id, api.ErrNone)
	if s.Used() != 10 || s.Holds(l[1].id) || s.Buried(l[0].id) {
		t.Error(s.Used())
	}
	expectJournal(t, d, incRecord(1), pieceRecord(l[0], 0), pieceRecord(l[1], 0), graveRecord(l[1].id), graveRecord(l[2].id), graveRecord(api.Digest{}))
	expect(t, "Put", s.Put(l[1].m, l[1].pieces[0]), api.ErrGone)
	expect(t, "Put", s.Put(l[2].m, l[2].pieces[0]), api.ErrGone)
	s = open(t, d, 100)
	expectGraves(t, s, l[1], l[2], item{})
	expect(t, "Put", s.Put(l[2].m, l[2].pieces[0]), api.ErrGone)
	expect(t, "Bury again", s.Bury(l[2].id), api.OK)
	expectJournal(t, d, incRecord(2), graveRecord(api.Digest{}), graveRecord(l[1].id), graveRecord(l[2].id), pieceRecord(l[0], 0))
}

// P4.6: what is reported of an empty store and of a full one.
func TestReports(t *testing.T) {
	d := newDisk(t, 12)
	s := open(t, d, 1000)
	l := newItems(t, 10)
	if len(s.Held()) != 0 || len(s.Graves()) != 0 || s.Used() != 0 || s.Free() != 11 {
		t.Error(s.Held(), s.Graves(), s.Used(), s.Free())
	}
	for i := range l {
		it := l[(i*7+3)%10]
		if s.Holds(it.id) || s.Buried(it.id) {
			t.Error("an object that nobody has put or buried")
		}
		if i%2 == 0 {
			put(t, s, it, 0)
		} else {
			expect(t, "Bury", s.Bury(it.id), api.OK)
		}
		if s.Holds(it.id) != (i%2 == 0) || s.Buried(it.id) != (i%2 == 1) || s.Free() != 10-i || s.Used() != 10*(i/2+1) {
			t.Error(i, s.Free(), s.Used())
		}
	}
	if !slices.IsSortedFunc(s.Held(), compare) || !slices.IsSortedFunc(s.Graves(), compare) || len(s.Held()) != 5 || len(s.Graves()) != 5 {
		t.Error(s.Held(), s.Graves())
	}
}

// compare compares ids.
func compare(a, b api.Digest) int { return bytes.Compare(a[:], b[:]) }

// Changes, example 5: a change for which there is no room rewrites the journal with what is left.
func TestChangesOfAFullJournal(t *testing.T) {
	l := newItems(t, 5)
	grave := l[4]
	for _, c := range []struct {
		name string
		call func(t *testing.T, f *full) api.Errno
		want func() [][]byte
	}{
		{"Put", func(t *testing.T, f *full) api.Errno {
			expect(t, "Drop", f.s.Drop(l[0].id), api.OK)
			return f.s.Put(l[3].m, l[3].pieces[0])
		}, func() [][]byte {
			return [][]byte{incRecord(1), graveRecord(grave.id), pieceRecord(l[1], 0), pieceRecord(l[2], 0), pieceRecord(l[3], 0)}
		}},
		{"Drop", func(t *testing.T, f *full) api.Errno { return f.s.Drop(l[1].id) }, func() [][]byte {
			return [][]byte{incRecord(1), graveRecord(grave.id), pieceRecord(l[0], 0), pieceRecord(l[2], 0)}
		}},
		{"Bury", func(t *testing.T, f *full) api.Errno { return f.s.Bury(l[1].id) }, func() [][]byte {
			return append([][]byte{incRecord(1)}, append(graves(l[1], grave), pieceRecord(l[0], 0), pieceRecord(l[2], 0))...)
		}},
		{"Raise", func(t *testing.T, f *full) api.Errno { return f.s.Raise(99) }, func() [][]byte {
			return [][]byte{incRecord(100), graveRecord(grave.id), pieceRecord(l[0], 0), pieceRecord(l[1], 0), pieceRecord(l[2], 0)}
		}},
		{"Compact", func(t *testing.T, f *full) api.Errno { return f.s.Compact() }, func() [][]byte {
			return [][]byte{incRecord(1), graveRecord(grave.id), pieceRecord(l[0], 0), pieceRecord(l[1], 0), pieceRecord(l[2], 0)}
		}},
	} {
		f := newFull(t, l, 5)
		expect(t, c.name, c.call(t, f), api.OK)
		expectJournal(t, f.d, c.want()...)
		if f.s.Free() != 5-len(c.want()) {
			t.Error(c.name, f.s.Free())
		}
		for _, id := range f.s.Held() {
			if _, p, e := f.s.Get(id); e != api.OK || len(p.Data) != 10 {
				t.Error(c.name, e)
			}
		}
	}
}

// full is a store whose area is full: of the incarnation, a grave (of the last object) and pieces.
type full struct {
	d *disk.Disk
	s *store.Store
}

// newFull returns a full store of an area; the pieces were put in another order than that of their ids.
func newFull(t *testing.T, l []item, area int) *full {
	t.Helper()
	d := newDisk(t, area)
	s := open(t, d, 1000)
	for i := range area - 2 {
		put(t, s, l[area-3-i], 0)
	}
	expect(t, "Bury", s.Bury(l[len(l)-1].id), api.OK)
	if s.Free() != 0 {
		t.Fatal(s.Free())
	}
	return &full{d: d, s: s}
}

// graves returns the grave records of objects in the order of their ids.
func graves(list ...item) [][]byte {
	var l [][]byte
	for _, id := range ids(list...) {
		l = append(l, graveRecord(id))
	}
	return l
}

// Changes: if there is no room after all, a Put or a Bury fails and changes nothing; Drop, Raise, Compact and a Bury of a held object succeed.
func TestFull(t *testing.T) {
	l := newItems(t, 6)
	d := newDisk(t, 4)
	s := open(t, d, 1000)
	for i := range 3 {
		put(t, s, l[i], 0)
	}
	before := d.Image()
	expect(t, "Put", s.Put(l[3].m, l[3].pieces[0]), api.ErrFull)
	expect(t, "Bury", s.Bury(l[3].id), api.ErrFull)
	if !bytes.Equal(d.Image(), before) {
		t.Error("a change that failed has changed the disk")
	}
	expectHeld(t, s, l[:3]...)
	expectGraves(t, s)
	expect(t, "Raise", s.Raise(5), api.OK)
	expect(t, "Compact", s.Compact(), api.OK)
	expect(t, "Bury of a held object", s.Bury(l[0].id), api.OK)
	expect(t, "Put", s.Put(l[3].m, l[3].pieces[0]), api.ErrFull)
	expect(t, "Drop", s.Drop(l[1].id), api.OK)
	put(t, s, l[3], 0)
	expectHeld(t, s, l[2], l[3])
	expectGraves(t, s, l[0])
	expectJournal(t, d, incRecord(6), graveRecord(l[0].id), pieceRecord(l[2], 0), pieceRecord(l[3], 0))
	expectPiece(t, s, l[2], 0)
	expectPiece(t, s, l[3], 0)
}

// Changes, P4.8: pieces that are found damaged while the journal is rewritten are not held any more.
func TestChangesFindDamage(t *testing.T) {
	l := newItems(t, 6)
	d := newDisk(t, 4)
	s := open(t, d, 1000)
	for i := range 3 {
		put(t, s, l[i], 0)
	}
	damage(t, d, s, l[1].id)
	put(t, s, l[3], 0) // in the room of the damaged one
	expectHeld(t, s, l[0], l[2], l[3])
	for _, i := range []int{0, 2, 3} {
		expectPiece(t, s, l[i], 0)
	}
	damage(t, d, s, l[0].id)
	expect(t, "Compact", s.Compact(), api.OK)
	expectHeld(t, s, l[2], l[3])
	expectJournal(t, d, incRecord(1), pieceRecord(l[2], 0), pieceRecord(l[3], 0))
	put(t, s, l[0], 0)
	damage(t, d, s, l[2].id)
	expect(t, "Raise", s.Raise(1), api.OK)
	expectHeld(t, s, l[0], l[3])
	put(t, s, l[2], 0)
	damage(t, d, s, l[3].id)
	expect(t, "Drop of a damaged piece", s.Drop(l[3].id), api.OK)
	expectHeld(t, s, l[0], l[2])
	put(t, s, l[3], 0)
	damage(t, d, s, l[3].id)
	expect(t, "Bury of a damaged piece", s.Bury(l[3].id), api.OK)
	expectHeld(t, s, l[0], l[2])
	expectGraves(t, s, l[3])
}

// Changes: pieces that are found damaged are not held any more even if the change fails; the others and the graves stay.
func TestFailedChangesFindDamage(t *testing.T) {
	l := newItems(t, 5)
	d := newDisk(t, 4)
	s := open(t, d, 1000)
	large := newItem(t, 1, 1, 1, string(make([]byte, 300)))
	put(t, s, l[0], 0)
	put(t, s, l[1], 0)
	put(t, s, l[2], 0)
	damage(t, d, s, l[1].id)
	before := d.Image()
	expect(t, "Put", s.Put(large.m, large.pieces[0]), api.ErrFull)
	if !bytes.Equal(d.Image(), before) {
		t.Error("a change that failed has changed the disk")
	}
	expectHeld(t, s, l[0], l[2])
	expectPiece(t, s, l[0], 0)
	expectPiece(t, s, l[2], 0)
	if s.Used() != 20 || s.Holds(large.id) {
		t.Error(s.Used())
	}
}

// seal writes a superblock.
func seal(t *testing.T, d *disk.Disk, slot int, generation uint64, area byte) {
	t.Helper()
	b := make([]byte, 128)
	copy(b[4:], "STOL")
	binary.BigEndian.PutUint64(b[8:], generation)
	b[16] = area
	binary.BigEndian.PutUint32(b, crc32.Checksum(b[4:], crc32.MakeTable(crc32.Castagnoli)))
	expect(t, "Write", d.Write(slot, b), api.OK)
}

// P4.1, P4.8, Changes: the errors of Rewrite when there are no more generations.
func TestNoMoreGenerations(t *testing.T) {
	l := newItems(t, 4)
	d := newDisk(t, 4)
	seal(t, d, 0, greatest-1, 0)
	s := open(t, d, 1000)
	put(t, s, l[0], 0)
	put(t, s, l[1], 0)
	expect(t, "Compact", s.Compact(), api.ErrFull)
	expectHeld(t, s, l[0], l[1])
	damage(t, d, s, l[1].id)
	expect(t, "Compact", s.Compact(), api.ErrFull)
	expectHeld(t, s, l[0])
	expect(t, "Bury", s.Bury(l[2].id), api.OK)
	before := d.Image()
	expect(t, "Drop", s.Drop(l[0].id), api.ErrFull)
	expect(t, "Bury", s.Bury(l[0].id), api.ErrFull)
	expect(t, "Put", s.Put(l[3].m, l[3].pieces[0]), api.ErrFull)
	expect(t, "Raise", s.Raise(4), api.ErrFull)
	expectHeld(t, s, l[0])
	expectGraves(t, s, l[2])
	expectPiece(t, s, l[0], 0)
	if s.Incarnation() != 1 || !bytes.Equal(d.Image(), before) {
		t.Error("a change that failed has changed something")
	}
	damage(t, d, s, l[0].id)
	before = d.Image()
	expect(t, "Drop of a damaged piece", s.Drop(l[0].id), api.ErrFull)
	if !s.Holds(l[0].id) {
		t.Error("Drop has examined the piece that it drops")
	}
	expectNoPiece(t, s, l[0].id, api.ErrDamaged)
	if _, e := store.Open(d, 0); e != api.ErrFull {
		t.Error(e)
	}
	if !bytes.Equal(d.Image(), before) {
		t.Error("an Open that failed has changed the disk")
	}
}

package store_test

import (
	"bytes"
	"slices"
	"testing"

	"stolon/api"
	"stolon/disk"
	"stolon/store"
)

const greatest = 1<<64 - 1

// P4.1, example 1: each Open has a greater incarnation, with and without a loss of power.
func TestIncarnationOfOpen(t *testing.T) {
	d := newDisk(t, 3)
	s := open(t, d, 0)
	if s.Incarnation() != 1 {
		t.Error(s.Incarnation())
	}
	expectHeld(t, s)
	expectGraves(t, s)
	expectJournal(t, d, incRecord(1))
	d.PowerOff()
	d.PowerOn()
	if s = open(t, d, 0); s.Incarnation() != 2 {
		t.Error(s.Incarnation())
	}
	if s = open(t, d, 0); s.Incarnation() != 3 {
		t.Error(s.Incarnation())
	}
	expectJournal(t, d, incRecord(3))
}

// P4.1: the smallest disk has room for the incarnation.
func TestOpenOfTheSmallestDisk(t *testing.T) {
	d, _ := disk.NewDisk(4)
	if s := open(t, d, 5); s.Incarnation() != 1 || s.Free() != 0 {
		t.Error(s.Incarnation(), s.Free())
	}
	d, _ = disk.NewDisk(5)
	if s := open(t, d, 5); s.Incarnation() != 1 || s.Free() != 0 {
		t.Error(s.Incarnation(), s.Free())
	}
}

// P4.1, R1, R2: the errors of Open, in their order, and that they change nothing.
func TestOpenErrors(t *testing.T) {
	full := diskWith(t, 3, incRecord(greatest))
	last := diskWith(t, 3, incRecord(greatest-1))
	a := newItem(t, 1, 1, 1, "fits in one block")
	crowded := diskWith(t, 2, pieceRecord(a, 0), graveRecord(api.Digest{}))
	off := newDisk(t, 3)
	off.PowerOff()
	fullOff := copyDisk(t, full)
	fullOff.PowerOff()
	for _, c := range []struct {
		name  string
		d     *disk.Disk
		quota int
		want  api.Errno
	}{
		{"no disk", nil, 0, api.ErrNil},
		{"no disk, no quota", nil, -1, api.ErrNil},
		{"no quota", newDisk(t, 3), -1, api.ErrArg},
		{"no quota, no power", off, -1, api.ErrArg},
		{"no quota, the last incarnation", full, -1 << 63, api.ErrArg},
		{"no power", off, 0, api.ErrDown},
		{"no power, the last incarnation", fullOff, 0, api.ErrDown},
		{"the last incarnation", full, 0, api.ErrFull},
		{"no room for the incarnation", crowded, 100, api.ErrFull},
	} {
		before := c.d.Image()
		s, e := store.Open(c.d, c.quota)
		if e != c.want || s != nil {
			t.Errorf("%s: %v, %d instead of %d", c.name, s, e, c.want)
		}
		if !bytes.Equal(c.d.Image(), before) {
			t.Error(c.name, "has changed the disk")
		}
	}
	if s := open(t, last, 0); s.Incarnation() != greatest {
		t.Error(s.Incarnation())
	}
}

// P4.1: Open returns the error of the write by which the power is lost.
func TestOpenLosesPower(t *testing.T) {
	for after := range 2 {
		d := newDisk(t, 3)
		d.Arm(after, 10)
		if s, e := store.Open(d, 1); e != api.ErrDown || s != nil {
			t.Error(s, e)
		}
	}
	d := newDisk(t, 3)
	d.Arm(2, 10)
	open(t, d, 1)
}

// P4.1: the quota is that of the last Open, and pieces above it stay.
func TestQuotaOfOpen(t *testing.T) {
	d := newDisk(t, 20)
	l := newItems(t, 3)
	empty := newItem(t, 1, 1, 1, "")
	s := open(t, d, 20)
	put(t, s, l[0], 0)
	put(t, s, l[1], 0)
	expect(t, "Put above the quota", s.Put(l[2].m, l[2].pieces[0]), api.ErrQuota)
	s = open(t, d, 5)
	expectHeld(t, s, l[:2]...)
	expectPiece(t, s, l[0], 0)
	expect(t, "Put above the quota", s.Put(l[2].m, l[2].pieces[0]), api.ErrQuota)
	expect(t, "Put of no bytes above the quota", s.Put(empty.m, empty.pieces[0]), api.ErrQuota)
	expect(t, "Compact above the quota", s.Compact(), api.OK)
	expectHeld(t, s, l[:2]...)
	s = open(t, d, 30)
	put(t, s, l[2], 0)
	expectHeld(t, s, l...)
	s = open(t, d, 0)
	for _, it := range l {
		expect(t, "Drop", s.Drop(it.id), api.OK)
	}
	put(t, s, empty, 0)
	expectHeld(t, s, empty)
}

// P4.1: no store that was opened earlier is live, nor a journal, and Open ends stores of other quotas as well.
func TestLiveStores(t *testing.T) {
	d := newDisk(t, 20)
	a := newItem(t, 1, 1, 1, "a")
	for _, end := range []func(){
		func() { open(t, d, 10) },
		func() { d.PowerOff() },
		func() { d.PowerOff(); d.PowerOn() },
		func() { disk.Open(d) },
	} {
		s := open(t, d, 10)
		if !s.Holds(a.id) {
			put(t, s, a, 0)
		}
		expect(t, "Compact", s.Compact(), api.OK)
		end()
		expectDead(t, s, a, api.ErrDown)
		d.PowerOn()
		expectDead(t, s, a, api.ErrDown)
	}
	other := open(t, newDisk(t, 3), 1)
	s := open(t, d, 10)
	open(t, copyDisk(t, d), 1)
	store.Open(d, -1)
	if s.Incarnation() == 0 || other.Incarnation() == 0 {
		t.Error("another disk, or an Open that opened no journal, has ended a store")
	}
}

// R3: a nil store.
func TestNilStore(t *testing.T) {
	expectDead(t, nil, newItem(t, 1, 1, 1, "a"), api.ErrNil)
}

// expectDead checks that all methods return zero values and an error.
func expectDead(t *testing.T, s *store.Store, it item, want api.Errno) {
	t.Helper()
	expect(t, "Raise", s.Raise(0), want)
	expect(t, "Raise", s.Raise(greatest), want)
	expect(t, "Put", s.Put(it.m, it.pieces[0]), want)
	expect(t, "Put of nothing", s.Put(api.Manifest{}, api.Piece{}), want)
	expectNoPiece(t, s, it.id, want)
	expectNoPiece(t, s, api.Digest{}, want)
	expect(t, "Drop", s.Drop(it.id), want)
	expect(t, "Drop", s.Drop(api.Digest{}), want)
	expect(t, "Bury", s.Bury(it.id), want)
	expect(t, "Compact", s.Compact(), want)
	at, blocks, e := s.Where(it.id)
	if at != 0 || blocks != 0 || e != want {
		t.Fatal("Where", at, blocks, e)
	}
	if s.Incarnation() != 0 || s.Holds(it.id) || s.Buried(it.id) || s.Used() != 0 || s.Free() != 0 {
		t.Fatal("a store that is not live has a state")
	}
	if len(s.Held()) != 0 || len(s.Graves()) != 0 || len(s.Scrub(3)) != 0 {
		t.Fatal("a store that is not live has lists")
	}
}

// A dead store has no graves either, and its Scrub finds no damage.
func TestDeadStoreWithGravesAndDamage(t *testing.T) {
	d := newDisk(t, 20)
	l := newItems(t, 2)
	s := open(t, d, 100)
	put(t, s, l[0], 0)
	expect(t, "Bury", s.Bury(l[1].id), api.OK)
	damage(t, d, s, l[0].id)
	d.PowerOff()
	expectDead(t, s, l[0], api.ErrDown)
	expectDead(t, s, l[1], api.ErrDown)
}

// Records, P4.1: what each record does when it is replayed.
func TestReplay(t *testing.T) {
	l := newItems(t, 3)
	two := newItem(t, 1, 2, 3, "two")
	for _, c := range []struct {
		name    string
		records [][]byte
		inc     uint64
		held    []item
		graves  []item
	}{
		{"nothing", nil, 1, nil, nil},
		{"an incarnation", [][]byte{incRecord(7)}, 8, nil, nil},
		{"a smaller incarnation", [][]byte{incRecord(7), incRecord(3)}, 8, nil, nil},
		{"a greater incarnation", [][]byte{incRecord(7), incRecord(1 << 60)}, 1<<60 + 1, nil, nil},
		{"the incarnation 0", [][]byte{incRecord(0)}, 1, nil, nil},
		{"pieces", [][]byte{pieceRecord(l[2], 0), pieceRecord(l[0], 0)}, 1, []item{l[0], l[2]}, nil},
		{"a drop", [][]byte{pieceRecord(l[2], 0), pieceRecord(l[0], 0), dropRecord(l[2].id)}, 1, l[:1], nil},
		{"a drop of nothing", [][]byte{dropRecord(l[0].id), pieceRecord(l[0], 0)}, 1, l[:1], nil},
		{"a piece again", [][]byte{pieceRecord(l[0], 0), dropRecord(l[0].id), pieceRecord(l[0], 0)}, 1, l[:1], nil},
		{"a grave", [][]byte{pieceRecord(l[0], 0), pieceRecord(l[1], 0), graveRecord(l[0].id)}, 1, l[1:2], l[:1]},
		{"a grave of nothing", [][]byte{graveRecord(l[0].id)}, 1, nil, l[:1]},
		{"graves", [][]byte{graveRecord(l[2].id), graveRecord(l[0].id), graveRecord(l[2].id)}, 1, nil, []item{l[0], l[2]}},
		{"a buried piece", [][]byte{graveRecord(l[0].id), pieceRecord(l[0], 0)}, 1, nil, l[:1]},
		{"a drop of a grave", [][]byte{graveRecord(l[0].id), dropRecord(l[0].id), pieceRecord(l[0], 0)}, 1, nil, l[:1]},
		{"a piece of several blocks", [][]byte{pieceRecord(two, 2), incRecord(5)}, 6, []item{two}, nil},
	} {
		d := diskWith(t, 12, c.records...)
		s := open(t, d, 100)
		if s.Incarnation() != c.inc {
			t.Errorf("%s: %d instead of %d", c.name, s.Incarnation(), c.inc)
		}
		expectHeld(t, s, c.held...)
		expectGraves(t, s, c.graves...)
		want := [][]byte{incRecord(c.inc)}
		for _, it := range c.graves {
			want = append(want, graveRecord(it.id))
		}
		for _, it := range c.held {
			want = append(want, pieceRecord(it, it.m.Total-1))
			expectPiece(t, s, it, it.m.Total-1)
		}
		expectJournal(t, d, want...)
	}
}

// Records: of two pieces of one object the first one is held.
func TestReplayOfTwoPieces(t *testing.T) {
	it := newItem(t, 2, 3, 4, "an object")
	d := diskWith(t, 20, pieceRecord(it, 1), pieceRecord(it, 0), pieceRecord(it, 3))
	s := open(t, d, 100)
	expectPiece(t, s, it, 1)
	expectJournal(t, d, incRecord(1), pieceRecord(it, 1))
	d = diskWith(t, 20, pieceRecord(it, 1), dropRecord(it.id), pieceRecord(it, 3), pieceRecord(it, 0))
	s = open(t, d, 100)
	expectPiece(t, s, it, 3)
	expectJournal(t, d, incRecord(1), pieceRecord(it, 3))
}

// Records: each other form is ignored.
func TestMalformedRecords(t *testing.T) {
	it := newItem(t, 2, 3, 4, "an object")
	other := newItem(t, 1, 1, 1, "another")
	piece := pieceRecord(it, 1)
	set := func(b []byte, at int, v byte) []byte {
		b = slices.Clone(b)
		b[at] = v
		return b
	}
	long := func(b []byte) []byte { return append(slices.Clone(b), 0) }
	short := func(b []byte) []byte { return b[:len(b)-1] }
	kind := func(k byte, b []byte) []byte { return set(b, 0, k) }
	list := [][]byte{
		nil, {0}, {1}, {2}, {3}, {4}, {5}, {2, 0}, {2, 0, 1}, {2, 0, 1, 0}, {2, 0, 1, 0, 0}, {2, 0, 1, 0, 9, 77},
		short(incRecord(9)), long(incRecord(9)), kind(0, incRecord(9)), kind(5, incRecord(9)), kind(3, incRecord(9)),
		short(dropRecord(other.id)), long(dropRecord(other.id)), kind(5, dropRecord(other.id)), kind(1, dropRecord(other.id)), kind(2, dropRecord(other.id)),
		short(graveRecord(other.id)), long(graveRecord(other.id)), kind(0, graveRecord(other.id)), kind(255, graveRecord(other.id)),
		short(piece), long(piece), kind(1, piece), kind(3, piece), kind(4, piece), kind(0, piece), kind(6, piece),
		set(piece, 1, 1),                          // the Index 257
		set(piece, 2, 0),                          // the Index of another piece
		set(piece, 2, 4),                          // an Index that is too great
		set(piece, 3, 255),                        // a Text that is too long
		set(piece, 4, piece[4]-1),                 // a manifest that is cut short
		set(piece, 4, piece[4]+1),                 // a manifest with one byte more
		set(piece, 5, 76),                         // no manifest
		set(piece, 6, 2),                          // of another version
		set(piece, 7, 0),                          // K is 0
		set(piece, 7, 4),                          // K is above N
		set(piece, 9, 3),                          // another Total
		set(piece, 11, 99),                        // another Size
		set(piece, 5+39+32, piece[5+39+32]+1),     // another digest of the piece
		set(piece, len(piece)-1, 1),               // other Data
		append(slices.Clone(piece), piece[1:]...), // two pieces in one record
	}
	for _, b := range list {
		d := diskWith(t, 30, incRecord(3), b, pieceRecord(other, 0), b)
		s := open(t, d, 100)
		if s.Incarnation() != 4 {
			t.Errorf("%v: incarnation %d", b, s.Incarnation())
		}
		expectHeld(t, s, other)
		expectGraves(t, s)
		expectJournal(t, d, incRecord(4), pieceRecord(other, 0))
	}
	d := diskWith(t, 120, list...)
	s := open(t, d, 100)
	expectHeld(t, s)
	expectGraves(t, s)
	expectJournal(t, d, incRecord(1))
}

// Records: the id is that of the manifest in the record, whatever of it the piece does not depend on.
func TestIDOfARecord(t *testing.T) {
	it := newItem(t, 2, 3, 4, "an object")
	changed := it
	changed.m.Object[5]++
	d := diskWith(t, 30, pieceRecord(it, 1), pieceRecord(changed, 1))
	s := open(t, d, 100)
	if len(s.Held()) != 2 || !s.Holds(it.id) {
		t.Error(s.Held())
	}
}

// P4.1: the largest piece record and the smallest one.
func TestLargestAndSmallestRecords(t *testing.T) {
	large := newItem(t, 1, 255, 255, string(bytes.Repeat([]byte{7}, api.MaxObject)))
	small := newItem(t, 1, 1, 1, "")
	record := pieceRecord(large, 254)
	d := newDisk(t, disk.Cost(len(record))+3)
	s := open(t, d, api.MaxObject)
	put(t, s, large, 254)
	put(t, s, small, 0)
	if s.Used() != api.MaxObject || s.Free() != 1 {
		t.Error(s.Used(), s.Free())
	}
	expectPiece(t, s, large, 254)
	expectPiece(t, s, small, 0)
	expectJournal(t, d, incRecord(1), record, pieceRecord(small, 0))
	s = open(t, d, 0)
	expectPiece(t, s, large, 254)
	expectPiece(t, s, small, 0)
	if _, blocks, e := s.Where(large.id); e != api.OK || blocks != disk.Cost(len(record)) {
		t.Error(blocks, e)
	}
}

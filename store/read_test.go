package store_test

import (
	"bytes"
	"slices"
	"testing"

	"stolon/api"
	"stolon/disk"
)

// P4.4, example 4: damage is found when the piece is read, and not before; then the piece is gone.
func TestGet(t *testing.T) {
	d := newDisk(t, 30)
	s := open(t, d, 100)
	a, b := newItem(t, 1, 2, 3, "first"), newItem(t, 1, 2, 3, "second")
	expectNoPiece(t, s, a.id, api.ErrNone)
	expectNoPiece(t, s, api.Digest{}, api.ErrNone)
	put(t, s, a, 1)
	put(t, s, b, 2)
	expectPiece(t, s, a, 1)
	expectPiece(t, s, b, 2)
	damage(t, d, s, a.id)
	if !s.Holds(a.id) || s.Used() != 11 {
		t.Error("damage is known before it is found")
	}
	expectPiece(t, s, b, 2)
	expectHeld(t, s, a, b)
	expectNoPiece(t, s, a.id, api.ErrDamaged)
	expectHeld(t, s, b)
	if s.Holds(a.id) || s.Used() != 6 {
		t.Error("a damaged piece is held")
	}
	expectNoPiece(t, s, a.id, api.ErrNone)
	expect(t, "Drop", s.Drop(a.id), api.ErrNone)
	expectPiece(t, s, b, 2)
	put(t, s, a, 0)
	expectPiece(t, s, a, 0)
	s = open(t, d, 100)
	expectPiece(t, s, a, 0)
	expectPiece(t, s, b, 2)
}

// P4.4: what is on the disk counts, not what was put: a wiped disk has no piece, and a restored one has it again.
func TestGetReadsTheDisk(t *testing.T) {
	l := newItems(t, 2)
	d := newDisk(t, 30)
	s := open(t, d, 100)
	put(t, s, l[0], 0)
	put(t, s, l[1], 0)
	at, _, _ := s.Where(l[0].id)
	d.Rot(at, 40, 3)
	d.Rot(at, 40, 3)
	expectPiece(t, s, l[0], 0)
	d.Wipe()
	expectHeld(t, s, l...)
	expectNoPiece(t, s, l[1].id, api.ErrDamaged)
	expectHeld(t, s, l[0])
	if lost := s.Scrub(5); !slices.Equal(lost, []api.Digest{l[0].id}) {
		t.Error(lost)
	}
	expectHeld(t, s)
}

// P4.4, P4.11: a sound record of another object, a record of another kind and a piece that is not sound count as damage.
func TestForeignRecords(t *testing.T) {
	l := newItems(t, 2)
	another := pieceRecord(l[0], 0)
	another[0] = 3 // a kind that is not that of pieces
	for _, record := range [][]byte{another, pieceRecord(l[1], 0), graveRecord(l[0].id), dropRecord(l[0].id), incRecord(3), nil, append(pieceRecord(l[0], 0), 1), pieceRecord(l[0], 0)} {
		d := newDisk(t, 30)
		s := open(t, d, 100)
		put(t, s, l[0], 0)
		at, _, _ := s.Where(l[0].id)
		overwrite(t, d, at, record)
		if bytes.Equal(record, pieceRecord(l[0], 0)) {
			expectPiece(t, s, l[0], 0)
			continue
		}
		expectNoPiece(t, s, l[0].id, api.ErrDamaged)
		expectHeld(t, s)
	}
}

// P4.4: another sound piece of the object that has come into the record's place is returned.
func TestAnotherSoundPiece(t *testing.T) {
	it := newItem(t, 1, 2, 2, "object")
	d := newDisk(t, 30)
	s := open(t, d, 100)
	put(t, s, it, 0)
	at, blocks, _ := s.Where(it.id)
	other := newDisk(t, 30)
	o := open(t, other, 100)
	put(t, o, it, 1)
	for i := range blocks {
		b, _ := other.Read(at + i)
		expect(t, "Write", d.Write(at+i, b), api.OK)
	}
	expectPiece(t, s, it, 1)
}

// overwrite puts a record of one block into the block of the position 1 of the area 0 of a disk with the generation 1.
func overwrite(t *testing.T, d *disk.Disk, block int, record []byte) {
	t.Helper()
	other := diskWith(t, 30, nil, record)
	b, e := other.Read(3)
	if e != api.OK || block != 3 || disk.Cost(len(record)) != 1 {
		t.Fatal(block, e)
	}
	expect(t, "Write", d.Write(block, b), api.OK)
}

// P4.7: where records are, after appending and after rewriting.
func TestWhere(t *testing.T) {
	d := newDisk(t, 30)
	s := open(t, d, 1000)
	list := variedItems(t)
	next := 3 // after the superblocks and the incarnation
	for _, i := range []int{4, 2, 7, 0} {
		it := list[i]
		if at, blocks, e := s.Where(it.id); at != 0 || blocks != 0 || e != api.ErrNone {
			t.Error(at, blocks, e)
		}
		put(t, s, it, 0)
		cost := disk.Cost(len(pieceRecord(it, 0)))
		if at, blocks, e := s.Where(it.id); at != next || blocks != cost || e != api.OK {
			t.Error(at, blocks, e, "instead of", next, cost)
		}
		next += cost
	}
	expect(t, "Compact", s.Compact(), api.OK)
	next = 2 + 30 + 1
	for _, id := range s.Held() {
		m, p, e := s.Get(id)
		cost := disk.Cost(5 + len(manifestBytes(m)) + len(p.Data))
		if at, blocks, code := s.Where(id); at != next || blocks != cost || code != api.OK || e != api.OK {
			t.Error(at, blocks, code, "instead of", next, cost)
		}
		next += cost
	}
	expect(t, "Drop", s.Drop(list[2].id), api.OK)
	expect(t, "Bury", s.Bury(list[4].id), api.OK)
	for _, id := range []api.Digest{list[2].id, list[4].id, {}} {
		if at, blocks, e := s.Where(id); at != 0 || blocks != 0 || e != api.ErrNone {
			t.Error(at, blocks, e)
		}
	}
}

// P4.8: Compact leaves the live records in their order.
func TestCompact(t *testing.T) {
	d := newDisk(t, 30)
	s := open(t, d, 1000)
	l := newItems(t, 8)
	for _, i := range []int{5, 2, 7, 0, 1} {
		put(t, s, l[i], 0)
	}
	for _, i := range []int{6, 5, 3} {
		expect(t, "Bury", s.Bury(l[i].id), api.OK)
	}
	expect(t, "Drop", s.Drop(l[0].id), api.OK)
	expect(t, "Raise", s.Raise(4), api.OK)
	want := [][]byte{incRecord(5), graveRecord(l[3].id), graveRecord(l[5].id), graveRecord(l[6].id), pieceRecord(l[1], 0), pieceRecord(l[2], 0), pieceRecord(l[7], 0)}
	for range 3 {
		expect(t, "Compact", s.Compact(), api.OK)
		expectJournal(t, d, want...)
		expectHeld(t, s, l[1], l[2], l[7])
		expectGraves(t, s, l[3], l[5], l[6])
		if s.Free() != 30-7 || s.Incarnation() != 5 {
			t.Error(s.Free(), s.Incarnation())
		}
	}
	d.Arm(7, 30)
	expect(t, "Compact", s.Compact(), api.ErrDown)
}

// P4.9, example 6: the order in which Scrub examines the pieces shows in the damage that it finds.
func TestScrub(t *testing.T) {
	l := newItems(t, 3)
	a, b, c := l[0].id, l[1].id, l[2].id
	for _, x := range []struct {
		counts []int
		want   [][]api.Digest
	}{
		{[]int{2, 2}, [][]api.Digest{{a, b}, {c}}},
		{[]int{1, 1, 1, 1}, [][]api.Digest{{a}, {b}, {c}, nil}},
		{[]int{3, 3}, [][]api.Digest{{a, b, c}, nil}},
		{[]int{4}, [][]api.Digest{{a, b, c}}},
		{[]int{1 << 62}, [][]api.Digest{{a, b, c}}},
		{[]int{0, -1, -1 << 63, 1}, [][]api.Digest{nil, nil, nil, {a}}},
	} {
		d := newDisk(t, 10)
		s := open(t, d, 100)
		for i := range l {
			put(t, s, l[2-i], 0)
		}
		for i := range l {
			damage(t, d, s, l[i].id)
		}
		for i, count := range x.counts {
			if got := s.Scrub(count); !slices.Equal(got, x.want[i]) {
				t.Errorf("Scrub(%d) returns %x instead of %x", count, got, x.want[i])
			}
			for _, id := range x.want[i] {
				if s.Holds(id) {
					t.Error("a damaged piece is held")
				}
			}
		}
	}
}

// P4.9: the cursor goes on from the last id that was examined, and around.
func TestCursor(t *testing.T) {
	l := newItems(t, 5)
	d := newDisk(t, 60)
	s := open(t, d, 100)
	scrub := func(count int, want ...int) {
		t.Helper()
		var list []api.Digest
		for _, i := range want {
			list = append(list, l[i].id)
		}
		if got := s.Scrub(count); !slices.Equal(got, list) {
			t.Errorf("Scrub(%d) returns %x instead of %x", count, got, list)
		}
	}
	scrub(3) // no piece: the cursor stays unset
	for _, i := range []int{1, 2, 3} {
		put(t, s, l[i], 0)
	}
	scrub(2) // examines 1 and 2
	damage(t, d, s, l[1].id)
	damage(t, d, s, l[3].id)
	scrub(0)
	scrub(-5)
	scrub(1, 3)
	scrub(1, 1) // around
	put(t, s, l[0], 0)
	put(t, s, l[4], 0)
	damage(t, d, s, l[0].id)
	damage(t, d, s, l[4].id)
	scrub(1) // examines 2, the first one after 1
	expect(t, "Drop", s.Drop(l[2].id), api.OK)
	scrub(2, 4, 0) // the id of the cursor itself is not held any more
	scrub(9)       // no piece: the cursor stays at 0
	for _, i := range []int{0, 1, 3} {
		put(t, s, l[i], 0)
		damage(t, d, s, l[i].id)
	}
	scrub(1, 1)
	scrub(2, 3, 0)
	put(t, s, l[0], 0)
	put(t, s, l[1], 0)
	damage(t, d, s, l[0].id)
	scrub(1) // examines 1
	s = open(t, d, 100)
	put(t, s, l[0], 0)
	put(t, s, l[2], 0)
	damage(t, d, s, l[0].id)
	damage(t, d, s, l[2].id)
	scrub(1, 0) // unset again
	scrub(1)    // examines 1
	expect(t, "Compact", s.Compact(), api.OK)
	put(t, s, l[0], 0)
	put(t, s, l[2], 0)
	damage(t, d, s, l[2].id)
	scrub(1, 2) // a rewritten journal leaves the cursor where it was
}

// P4.9: the pieces that are held at first count, so none is examined twice although some turn out to be damaged.
func TestScrubExaminesNoneTwice(t *testing.T) {
	l := newItems(t, 4)
	d := newDisk(t, 30)
	s := open(t, d, 100)
	for _, it := range l {
		put(t, s, it, 0)
	}
	s.Scrub(2)
	damage(t, d, s, l[3].id)
	damage(t, d, s, l[2].id)
	damage(t, d, s, l[0].id)
	if got := s.Scrub(99); !slices.Equal(got, []api.Digest{l[2].id, l[3].id, l[0].id}) {
		t.Error(got)
	}
	expectHeld(t, s, l[1])
	put(t, s, l[2], 0)
	damage(t, d, s, l[2].id)
	damage(t, d, s, l[1].id)
	if got := s.Scrub(1); !slices.Equal(got, []api.Digest{l[2].id}) {
		t.Errorf("%x", got) // the last one that was examined is 1, though it is sound
	}
}

// P4.11: each byte of a record: Get finds the damage, and the other pieces are not affected, now and after the next Open.
func TestEveryDamage(t *testing.T) {
	d := newDisk(t, 30)
	s := open(t, d, 1000)
	list := []item{newItem(t, 1, 1, 1, "a"), newItem(t, 2, 3, 4, string(make([]byte, 100))), newItem(t, 1, 1, 1, "b"), newItem(t, 1, 2, 3, "two")}
	for _, it := range list {
		put(t, s, it, 0)
	}
	expect(t, "Bury", s.Bury(api.Digest{}), api.OK)
	for i, hurt := range list {
		others := slices.Delete(slices.Clone(list), i, i+1)
		_, blocks, _ := s.Where(hurt.id)
		for b := range blocks {
			for at := range api.BlockSize {
				for _, mask := range []byte{1, 128, 255, byte(at) | 2} {
					c := copyDisk(t, d)
					s := open(t, c, 1000)
					first, _, _ := s.Where(hurt.id)
					c.Rot(first+b, at, mask)
					for _, it := range others {
						expectPiece(t, s, it, 0)
					}
					expectNoPiece(t, s, hurt.id, api.ErrDamaged)
					expectHeld(t, s, others...)
					if at%16 == 3 {
						s = open(t, c, 1000)
						expectHeld(t, s, others...)
						expectGraves(t, s, item{})
					}
				}
			}
		}
	}
}

// R4: what is given to a store and what it returns share no memory with it.
func TestStoreSharesNothing(t *testing.T) {
	d := newDisk(t, 30)
	s := open(t, d, 1000)
	it := newItem(t, 2, 3, 4, "an object")
	m, p := it.m, api.Piece{Index: 1, Data: slices.Clone(it.pieces[1].Data)}
	m.Pieces = slices.Clone(it.m.Pieces)
	expect(t, "Put", s.Put(m, p), api.OK)
	if !sameManifest(m, it.m) || !bytes.Equal(p.Data, it.pieces[1].Data) {
		t.Error("Put has changed its arguments")
	}
	spoil := func(m api.Manifest, p api.Piece) {
		for i := range m.Pieces {
			m.Pieces[i] = api.Digest{1, 2, 3}
		}
		for i := range p.Data {
			p.Data[i] += 7
		}
	}
	spoil(m, p)
	for range 3 {
		expectPiece(t, s, it, 1)
		m, p, _ := s.Get(it.id)
		spoil(m, p)
	}
	expect(t, "Bury", s.Bury(api.Digest{}), api.OK)
	for range 2 {
		held, graves := s.Held(), s.Graves()
		if len(held) != 1 || held[0] != it.id || len(graves) != 1 || graves[0] != (api.Digest{}) {
			t.Fatal(held, graves)
		}
		held[0][0]++
		graves[0][0]++
	}
	expect(t, "Compact", s.Compact(), api.OK)
	expectPiece(t, s, it, 1)
	damage(t, d, s, it.id)
	lost := s.Scrub(1)
	if len(lost) != 1 || lost[0] != it.id {
		t.Fatal(lost)
	}
	lost[0] = api.Digest{255}
	put(t, s, it, 0)
	if lost = s.Scrub(1); len(lost) != 0 {
		t.Error(lost)
	}
}

package store_test

import (
	"bytes"
	"crypto/sha256"
	"encoding/binary"
	"maps"
	"slices"
	"testing"

	"stolon/api"
	"stolon/digest"
	"stolon/disk"
	"stolon/rs"
	"stolon/store"
)

// This file has helpers, and a second, plainer implementation of records and of the state that they describe.

// item is an object with its pieces.
type item struct {
	m      api.Manifest
	pieces []api.Piece
	id     api.Digest
}

// newItem encodes an object.
func newItem(t *testing.T, k, n, total int, data string) item {
	t.Helper()
	m, pieces, e := digest.Make(rs.NewField(), k, n, total, []byte(data))
	if e != api.OK {
		t.Fatal(e)
	}
	return item{m: m, pieces: pieces, id: sha256.Sum256(manifestBytes(m))}
}

// newItems returns n objects of one piece of 10 bytes, whose records have one block, in the order of their ids.
func newItems(t *testing.T, n int) []item {
	t.Helper()
	var list []item
	for i := range n {
		list = append(list, newItem(t, 1, 1, 1, string(rune('A'+i))+"123456789"))
	}
	sortItems(list)
	return list
}

// sortItems puts objects into the order of their ids.
func sortItems(list []item) {
	slices.SortFunc(list, func(a, b item) int { return bytes.Compare(a.id[:], b.id[:]) })
}

// manifestBytes returns the bytes of a manifest.
func manifestBytes(m api.Manifest) []byte {
	b := []byte{77, 1, byte(m.K), byte(m.N), byte(m.Total), byte(m.Size >> 8), byte(m.Size)}
	b = append(b, m.Object[:]...)
	for _, p := range m.Pieces {
		b = append(b, p[:]...)
	}
	return b
}

// incRecord returns an incarnation record.
func incRecord(inc uint64) []byte { return binary.BigEndian.AppendUint64([]byte{1}, inc) }

// pieceRecord returns the record of a piece.
func pieceRecord(it item, index int) []byte {
	b := binary.BigEndian.AppendUint16([]byte{2}, uint16(index))
	m := manifestBytes(it.m)
	b = binary.BigEndian.AppendUint16(b, uint16(len(m)))
	b = append(b, m...)
	return append(b, it.pieces[index].Data...)
}

// dropRecord returns a drop record.
func dropRecord(id api.Digest) []byte { return append([]byte{3}, id[:]...) }

// graveRecord returns a grave record.
func graveRecord(id api.Digest) []byte { return append([]byte{4}, id[:]...) }

// newDisk returns a disk with areas of a size.
func newDisk(t *testing.T, area int) *disk.Disk {
	t.Helper()
	d, e := disk.NewDisk(2 + 2*area)
	if e != api.OK {
		t.Fatal(e)
	}
	return d
}

// copyDisk returns another disk with the same bytes.
func copyDisk(t *testing.T, d *disk.Disk) *disk.Disk {
	t.Helper()
	c, e := disk.LoadDisk(d.Image())
	if e != api.OK {
		t.Fatal(e)
	}
	return c
}

// entriesOf returns what the journal of a disk contains. The disk's journals stay live.
func entriesOf(t *testing.T, d *disk.Disk) []api.Entry {
	t.Helper()
	_, entries, e := disk.Open(copyDisk(t, d))
	if e != api.OK {
		t.Fatal(e)
	}
	return entries
}

// expectJournal checks the records of the journal of a disk.
func expectJournal(t *testing.T, d *disk.Disk, want ...[]byte) {
	t.Helper()
	got := entriesOf(t, d)
	if !slices.EqualFunc(got, want, func(e api.Entry, b []byte) bool { return bytes.Equal(e.Data, b) }) {
		t.Fatalf("the journal contains %v instead of %v", got, want)
	}
}

// diskWith returns a disk whose journal contains records.
func diskWith(t *testing.T, area int, records ...[]byte) *disk.Disk {
	t.Helper()
	d := newDisk(t, area)
	j, _, e := disk.Open(d)
	if e != api.OK {
		t.Fatal(e)
	}
	if _, e := j.Rewrite(records); e != api.OK {
		t.Fatal(e)
	}
	return d
}

// open opens the store of a disk.
func open(t *testing.T, d *disk.Disk, quota int) *store.Store {
	t.Helper()
	s, e := store.Open(d, quota)
	if e != api.OK || s == nil {
		t.Fatal("Open", e)
	}
	return s
}

// expect checks the code of a call that has to succeed, or to fail in this way.
func expect(t *testing.T, what string, got, want api.Errno) {
	t.Helper()
	if got != want {
		t.Fatalf("%s returns %d instead of %d", what, got, want)
	}
}

// put puts one piece of an object.
func put(t *testing.T, s *store.Store, it item, index int) {
	t.Helper()
	expect(t, "Put", s.Put(it.m, it.pieces[index]), api.OK)
}

// ids returns the ids of objects in ascending order.
func ids(list ...item) []api.Digest {
	list = slices.Clone(list)
	sortItems(list)
	var l []api.Digest
	for _, it := range list {
		l = append(l, it.id)
	}
	return l
}

// expectHeld checks which objects are held.
func expectHeld(t *testing.T, s *store.Store, list ...item) {
	t.Helper()
	if !slices.Equal(s.Held(), ids(list...)) {
		t.Fatalf("held: %x instead of %x", s.Held(), ids(list...))
	}
	for _, it := range list {
		if !s.Holds(it.id) {
			t.Fatalf("Holds is false for %x", it.id)
		}
	}
}

// expectGraves checks which objects are buried.
func expectGraves(t *testing.T, s *store.Store, list ...item) {
	t.Helper()
	if !slices.Equal(s.Graves(), ids(list...)) {
		t.Fatalf("buried: %x instead of %x", s.Graves(), ids(list...))
	}
	for _, it := range list {
		if !s.Buried(it.id) {
			t.Fatalf("Buried is false for %x", it.id)
		}
	}
}

// expectPiece checks that Get returns a piece of an object.
func expectPiece(t *testing.T, s *store.Store, it item, index int) {
	t.Helper()
	m, p, e := s.Get(it.id)
	if e != api.OK || !sameManifest(m, it.m) || p.Index != index || !bytes.Equal(p.Data, it.pieces[index].Data) {
		t.Fatalf("Get returns %v, %v, %d", m, p, e)
	}
}

// expectNoPiece checks that Get returns an error and nothing else.
func expectNoPiece(t *testing.T, s *store.Store, id api.Digest, want api.Errno) {
	t.Helper()
	m, p, e := s.Get(id)
	if e != want || !sameManifest(m, api.Manifest{}) || p.Index != 0 || len(p.Data) != 0 {
		t.Fatalf("Get returns %v, %v, %d instead of %d", m, p, e, want)
	}
}

// sameManifest compares manifests.
func sameManifest(a, b api.Manifest) bool {
	return a.K == b.K && a.N == b.N && a.Total == b.Total && a.Size == b.Size && a.Object == b.Object && slices.Equal(a.Pieces, b.Pieces)
}

// damage changes a byte of the record of a held piece.
func damage(t *testing.T, d *disk.Disk, s *store.Store, id api.Digest) {
	t.Helper()
	at, _, e := s.Where(id)
	expect(t, "Where", e, api.OK)
	expect(t, "Rot", d.Rot(at, 40, 1), api.OK)
}

// model is a store that keeps in mind what its journal contains.
type model struct {
	items  map[api.Digest]item
	area   int // the size of an area
	second bool
	quota  int

	inc     uint64
	log     [][]byte
	damaged map[int]bool // the records of the log that are
	held    map[api.Digest]int
	index   map[api.Digest]int // of the pieces that are held
	graves  map[api.Digest]bool
	cursor  []byte
}

// newModel returns the model of a store that was just opened on a new disk.
func newModel(area, quota int, list []item) *model {
	m := &model{items: make(map[api.Digest]item), area: area, quota: quota, inc: 1, log: [][]byte{incRecord(1)}}
	m.damaged, m.held, m.index, m.graves = make(map[int]bool), make(map[api.Digest]int), make(map[api.Digest]int), make(map[api.Digest]bool)
	for _, it := range list {
		m.items[it.id] = it
	}
	return m
}

// clone returns a copy.
func (m *model) clone() *model {
	c := *m
	c.log = slices.Clone(m.log)
	c.damaged, c.held, c.index, c.graves = maps.Clone(m.damaged), maps.Clone(m.held), maps.Clone(m.index), maps.Clone(m.graves)
	return &c
}

// position returns the position of a record of the log, or the end of it.
func (m *model) position(i int) int {
	at := 0
	for _, r := range m.log[:i] {
		at += disk.Cost(len(r))
	}
	return at
}

// free returns the number of free blocks.
func (m *model) free() int { return m.area - m.position(len(m.log)) }

// sorted returns the keys of a map in ascending order.
func sorted[V any](m map[api.Digest]V) []api.Digest {
	return slices.SortedFunc(maps.Keys(m), func(a, b api.Digest) int { return bytes.Compare(a[:], b[:]) })
}

// live returns the live records, and where in the list those of the held pieces are.
func (m *model) live() ([][]byte, map[api.Digest]int) {
	list := [][]byte{incRecord(m.inc)}
	for _, id := range sorted(m.graves) {
		list = append(list, graveRecord(id))
	}
	places := make(map[api.Digest]int)
	for _, id := range sorted(m.held) {
		places[id] = len(list)
		list = append(list, pieceRecord(m.items[id], m.index[id]))
	}
	return list, places
}

// lose makes the held pieces whose records are damaged not held, and returns their ids.
func (m *model) lose() []api.Digest {
	var lost []api.Digest
	for _, id := range sorted(m.held) {
		if m.damaged[m.held[id]] {
			lost = append(lost, id)
			delete(m.held, id)
		}
	}
	return lost
}

// rewrite makes the state after an edit the content of the log.
func (m *model) rewrite(edit func(next *model, place int)) api.Errno {
	next := m.clone()
	edit(next, -1) // no place of the log, until the live records are laid out
	for _, id := range next.lose() {
		delete(m.held, id)
	}
	list, places := next.live()
	next.log, next.held, next.damaged, next.second = list, places, make(map[int]bool), !next.second
	if next.free() < 0 {
		return api.ErrFull
	}
	*m = *next
	return api.OK
}

// change adds a record. The edit is told its place in the log.
func (m *model) change(record []byte, edit func(next *model, place int)) api.Errno {
	if disk.Cost(len(record)) > m.free() {
		return m.rewrite(edit)
	}
	edit(m, len(m.log))
	m.log = append(m.log, record)
	return api.OK
}

// reopen is a loss of power and an Open.
func (m *model) reopen(quota int) {
	m.rewrite(func(next *model, _ int) { next.inc++ })
	m.quota, m.cursor = quota, nil
}

func (m *model) raise(above uint64) api.Errno {
	switch {
	case m.inc > above:
		return api.OK
	case above == 1<<64-1:
		return api.ErrFull
	}
	return m.change(incRecord(above+1), func(next *model, _ int) { next.inc = above + 1 })
}

func (m *model) put(it item, index int) api.Errno {
	if m.graves[it.id] {
		return api.ErrGone
	}
	if _, ok := m.held[it.id]; ok {
		return api.ErrTwice
	}
	if m.used()+len(it.pieces[index].Data) > m.quota {
		return api.ErrQuota
	}
	return m.change(pieceRecord(it, index), func(next *model, place int) {
		next.held[it.id] = place
		next.index[it.id] = index
	})
}

func (m *model) drop(id api.Digest) api.Errno {
	if _, ok := m.held[id]; !ok {
		return api.ErrNone
	}
	return m.change(dropRecord(id), func(next *model, _ int) { delete(next.held, id) })
}

func (m *model) bury(id api.Digest) api.Errno {
	if m.graves[id] {
		return api.OK
	}
	return m.change(graveRecord(id), func(next *model, _ int) {
		delete(next.held, id)
		next.graves[id] = true
	})
}

func (m *model) get(id api.Digest) api.Errno {
	at, ok := m.held[id]
	switch {
	case !ok:
		return api.ErrNone
	case m.damaged[at]:
		delete(m.held, id)
		return api.ErrDamaged
	}
	return api.OK
}

func (m *model) scrub(count int) []api.Digest {
	all := sorted(m.held)
	var after, before []api.Digest
	for _, id := range all {
		if m.cursor == nil || bytes.Compare(id[:], m.cursor) > 0 {
			after = append(after, id)
		} else {
			before = append(before, id)
		}
	}
	var lost []api.Digest
	for _, id := range append(after, before...)[:max(0, min(count, len(all)))] {
		m.cursor = slices.Clone(id[:])
		if m.get(id) != api.OK {
			lost = append(lost, id)
		}
	}
	return lost
}

func (m *model) used() int {
	sum := 0
	for id := range m.held {
		sum += len(m.items[id].pieces[0].Data)
	}
	return sum
}

// agrees reports whether a store and the journal of its disk are as the model says.
func (m *model) agrees(t *testing.T, d *disk.Disk, s *store.Store) bool {
	t.Helper()
	base := 2
	if m.second {
		base += m.area
	}
	j, entries, e := disk.Open(copyDisk(t, d))
	if e != api.OK {
		t.Fatal(e)
	}
	same := j.Base() == base && s.Incarnation() == m.inc && slices.Equal(s.Held(), sorted(m.held)) && slices.Equal(s.Graves(), sorted(m.graves)) && s.Used() == m.used() && s.Free() == m.free()
	for id := range m.items {
		place, held := m.held[id]
		same = same && s.Holds(id) == held && s.Buried(id) == m.graves[id]
		at, blocks, e := s.Where(id)
		if held {
			same = same && e == api.OK && at == base+m.position(place) && blocks == disk.Cost(len(m.log[place]))
		} else {
			same = same && e == api.ErrNone && at == 0 && blocks == 0
		}
	}
	var want []api.Entry
	for i, r := range m.log {
		if !m.damaged[i] {
			want = append(want, api.Entry{At: m.position(i), Data: r})
		}
	}
	return same && slices.EqualFunc(entries, want, func(a, b api.Entry) bool { return a.At == b.At && bytes.Equal(a.Data, b.Data) })
}

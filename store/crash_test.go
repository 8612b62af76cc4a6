package store_test

import (
	"bytes"
	"slices"
	"testing"

	"stolon/api"
	"stolon/disk"
	"stolon/store"
)

// content is what is expected of a store after an Open.
type content struct {
	held   []item
	graves []item
	inc    uint64 // that was replayed
}

// shows reports whether a store that was just opened has this content.
func (c content) shows(s *store.Store) bool {
	return s.Incarnation() == c.inc+1 && slices.Equal(s.Held(), ids(c.held...)) && slices.Equal(s.Graves(), ids(c.graves...))
}

// crash is a call that is interrupted, and what is found before it and after it.
type crash struct {
	name          string
	call          func(d *disk.Disk, s *store.Store) api.Errno
	before, after content
}

// crashes returns calls on a store that holds the first three objects and has a grave of the fifth.
func crashes(l []item) []crash {
	first := content{l[:3], l[4:5], 2}
	return []crash{
		{"Put", func(_ *disk.Disk, s *store.Store) api.Errno { return s.Put(l[3].m, l[3].pieces[0]) }, first, content{l[:4], l[4:5], 2}},
		{"Drop", func(_ *disk.Disk, s *store.Store) api.Errno { return s.Drop(l[1].id) }, first, content{[]item{l[0], l[2]}, l[4:5], 2}},
		{"Bury", func(_ *disk.Disk, s *store.Store) api.Errno { return s.Bury(l[1].id) }, first, content{[]item{l[0], l[2]}, []item{l[1], l[4]}, 2}},
		{"Raise", func(_ *disk.Disk, s *store.Store) api.Errno { return s.Raise(6) }, first, content{l[:3], l[4:5], 7}},
		{"Compact", func(_ *disk.Disk, s *store.Store) api.Errno { return s.Compact() }, first, first},
		{"Open", func(d *disk.Disk, _ *store.Store) api.Errno { _, e := store.Open(d, 9); return e }, first, content{l[:3], l[4:5], 3}},
	}
}

// crashDisk returns a disk with the content before the crashes. If it is filled there is no room for one more record, but the fourth object fits if the journal is rewritten.
func crashDisk(t *testing.T, l []item, filled bool) (*disk.Disk, *store.Store) {
	t.Helper()
	d := newDisk(t, 10)
	s := open(t, d, 1000)
	expect(t, "Bury", s.Bury(l[4].id), api.OK)
	s = open(t, d, 1000)
	for _, it := range l[:3] {
		put(t, s, it, 0)
	}
	if filled {
		// Two records that leave nothing.
		put(t, s, l[5], 0)
		expect(t, "Drop", s.Drop(l[5].id), api.OK)
	}
	if filled != (s.Free() == 0) {
		t.Fatal(s.Free())
	}
	return d, s
}

// crashItems returns objects whose records have 1, 2, 3, 2, 1 and 1 blocks.
func crashItems(t *testing.T) []item {
	t.Helper()
	return []item{newItem(t, 1, 1, 1, "one"), newItem(t, 1, 2, 3, "two"), newItem(t, 2, 3, 4, string(make([]byte, 100))), newItem(t, 1, 2, 3, "again two"), newItem(t, 1, 1, 1, "the grave"), newItem(t, 1, 1, 1, "comes and goes")}
}

// P4.10: the power is lost at each write of each call, and after each number of bytes.
func TestCrashes(t *testing.T) {
	l := crashItems(t)
	for _, filled := range []bool{false, true} {
		for _, c := range crashes(l) {
			writes := 0
			for interrupt(t, l, filled, c, writes) {
				writes++
			}
			if writes == 0 {
				t.Error(c.name, "writes nothing")
			}
		}
	}
}

// interrupt loses the power at one write of a call, after each number of bytes. It reports whether the call has that many writes.
func interrupt(t *testing.T, l []item, filled bool, c crash, after int) bool {
	t.Helper()
	for keep := range api.BlockSize + 1 {
		d, s := crashDisk(t, l, filled)
		expect(t, "Arm", d.Arm(after, keep), api.OK)
		if e := c.call(d, s); e == api.OK {
			d.PowerOff()
			d.PowerOn()
			if s := open(t, d, 1000); !c.after.shows(s) {
				t.Fatal(c.name, "had not its effect", s.Incarnation())
			}
			return false
		} else if e != api.ErrDown {
			t.Fatal(c.name, e)
		}
		expectDead(t, s, l[0], api.ErrDown)
		d.PowerOn()
		expectDead(t, s, l[0], api.ErrDown)
		s = open(t, d, 1000)
		if !c.before.shows(s) && !c.after.shows(s) {
			t.Fatalf("%s, write %d, %d bytes: %x, %x, %d", c.name, after, keep, s.Held(), s.Graves(), s.Incarnation())
		}
		for _, id := range s.Held() {
			if _, _, e := s.Get(id); e != api.OK {
				t.Fatalf("%s, write %d, %d bytes: Get returns %d", c.name, after, keep, e)
			}
		}
		if keep == 0 && !c.before.shows(s) {
			t.Fatalf("%s, write %d: an effect without its last write", c.name, after)
		}
	}
	return true
}

// P4.10: a call that has returned OK is durable, whatever happens at any later write.
func TestAcknowledgedCallsAreDurable(t *testing.T) {
	l := crashItems(t)
	for _, c := range crashes(l)[:5] {
		for after := range 12 {
			d, s := crashDisk(t, l, true)
			expect(t, c.name, c.call(d, s), api.OK)
			d.Arm(after, 60)
			for s.Compact() == api.OK {
			}
			d.PowerOn()
			if s = open(t, d, 1000); !c.after.shows(s) {
				t.Fatalf("%s, write %d: %x, %x, %d", c.name, after, s.Held(), s.Graves(), s.Incarnation())
			}
		}
	}
}

// P4.10: the incarnation increases even if many Opens in a row lose the power.
func TestOpensThatLosePower(t *testing.T) {
	l := crashItems(t)
	d, s := crashDisk(t, l, false)
	known := s.Incarnation()
	for i := range 200 {
		d.Arm(i%11, i%129)
		s, e := store.Open(d, 0)
		if e == api.OK {
			if s.Incarnation() <= known {
				t.Fatal(s.Incarnation(), "after", known)
			}
			known = s.Incarnation()
		}
		d.PowerOn()
	}
	s = open(t, d, 0)
	if s.Incarnation() <= known {
		t.Fatal(s.Incarnation(), "after", known)
	}
	expectHeld(t, s, l[:3]...)
	expectGraves(t, s, l[4])
}

// P4.1 to P4.11, P1: any bytes on a disk, and calls on them.
func TestAnyDisk(t *testing.T) {
	l := crashItems(t)
	d, _ := crashDisk(t, l, true)
	image := d.Image()
	for seed := range 2000 {
		b := bytes.Clone(image)
		for i := range seed % 7 {
			// Whole blocks change their places, or become what other blocks are.
			x, y := (seed*(i+3)*7919)%(len(b)/128), (seed*(i+5)*104729)%(len(b)/128)
			copy(b[128*x:128*x+128], bytes.Clone(b[128*y:128*y+128]))
			b[(seed*(i+11)*15485863)%len(b)] += byte(seed)
		}
		d, e := disk.LoadDisk(b)
		expect(t, "LoadDisk", e, api.OK)
		s := open(t, d, 1000)
		for _, id := range s.Held() {
			m, p, e := s.Get(id)
			i := slices.IndexFunc(l, func(it item) bool { return it.id == id })
			if e != api.OK || i < 0 || !sameManifest(m, l[i].m) || !bytes.Equal(p.Data, l[i].pieces[p.Index].Data) {
				t.Fatal("a piece that nobody has put")
			}
		}
		if lost := s.Scrub(9); len(lost) != 0 {
			t.Fatal("damage in a journal that was just written")
		}
	}
}

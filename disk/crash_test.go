package disk_test

import (
	"math/rand/v2"
	"slices"
	"testing"

	"stolon/api"
	"stolon/disk"
)

// history is a journal that was made by a fixed sequence of calls, and what it contains.
type history struct {
	d       *disk.Disk
	j       *disk.Journal
	content [][]byte
}

// newHistory returns a journal with earlier records of one and of several parts in both areas.
func newHistory(t *testing.T) *history {
	t.Helper()
	h := &history{d: newDisk(t, 2+2*9)}
	h.j, _ = open(t, h.d)
	for g := range 3 {
		mustRewrite(t, h.j, [][]byte{randomBytes(uint64(g), 250), randomBytes(uint64(10+g), 40)})
		mustAppend(t, h.j, randomBytes(uint64(20+g), 230))
		mustAppend(t, h.j, randomBytes(uint64(30+g), 150))
	}
	h.content = [][]byte{randomBytes(40, 120), []byte("two"), nil}
	mustRewrite(t, h.j, h.content)
	last := randomBytes(41, 90)
	mustAppend(t, h.j, last)
	h.content = append(h.content, last)
	return h
}

// expectContent checks what the next Open returns, and that all of it can be read where Open says that it is.
func expectContent(t *testing.T, d *disk.Disk, want [][]byte) {
	t.Helper()
	if _, entries := open(t, d); !sameRecords(bytesOf(entries), want) {
		t.Fatalf("Open returns %d records instead of %d, or other ones", len(entries), len(want))
	}
}

// P3.12: the power is lost at each write of an Append, and after each number of bytes.
func TestCrashesOfAppend(t *testing.T) {
	for _, size := range []int{0, 100, 106, 107, 300, 424} {
		record := randomBytes(99, size)
		for after := range disk.Cost(size) {
			kept := 0
			for keep := range 129 {
				h := newHistory(t)
				h.d.Arm(after, keep)
				if _, e := h.j.Append(record); e != api.ErrDown {
					t.Fatal(e)
				}
				h.d.PowerOn()
				_, entries := open(t, h.d)
				switch got := bytesOf(entries); {
				case sameRecords(got, append(slices.Clone(h.content), record)):
					kept++
				case !sameRecords(got, h.content):
					t.Fatalf("size %d, write %d, %d bytes: %d records", size, after, keep, len(got))
				}
				if whole := after == disk.Cost(size)-1; keep == 128 && whole != (kept > 0) {
					t.Fatalf("size %d, write %d: the record was kept %d times", size, after, kept)
				}
			}
		}
	}
}

// P3.12: the power is lost at each write of a Rewrite, and after each number of bytes.
func TestCrashesOfRewrite(t *testing.T) {
	for _, list := range [][][]byte{nil, records("x"), {randomBytes(1, 250), []byte("y"), randomBytes(2, 230)}} {
		writes := len(blocksOf(1, 0, list...)) + 1
		for after := range writes {
			renewed := 0
			for keep := range 129 {
				h := newHistory(t)
				h.d.Arm(after, keep)
				if _, e := h.j.Rewrite(list); e != api.ErrDown {
					t.Fatal(e)
				}
				h.d.PowerOn()
				_, entries := open(t, h.d)
				switch got := bytesOf(entries); {
				case sameRecords(got, list):
					renewed++
				case !sameRecords(got, h.content):
					t.Fatalf("write %d of %d, %d bytes: %d records", after, writes, keep, len(got))
				}
				if keep == 128 && (after == writes-1) != (renewed > 0) {
					t.Fatalf("write %d of %d: renewed %d times", after, writes, renewed)
				}
			}
		}
	}
}

// P3.12: the first Rewrite of a disk, before which there is no active superblock.
func TestCrashesOfTheFirstRewrite(t *testing.T) {
	list := records("a", "b")
	for after := range 3 {
		for keep := range 129 {
			d := newDisk(t, 8)
			j, _ := open(t, d)
			d.Arm(after, keep)
			if _, e := j.Rewrite(list); e != api.ErrDown {
				t.Fatal(e)
			}
			d.PowerOn()
			_, entries := open(t, d)
			if got := bytesOf(entries); !sameRecords(got, list) && len(got) > 0 {
				t.Fatal(after, keep, got)
			}
		}
	}
}

// P3.12: at any other time nothing is lost.
func TestLossesBetweenCalls(t *testing.T) {
	h := newHistory(t)
	for range 3 {
		h.d.PowerOff()
		h.d.PowerOn()
		expectContent(t, h.d, h.content)
		expectContent(t, h.d, h.content)
	}
	h = newHistory(t)
	h.d.Arm(disk.Cost(300), 5)
	record := randomBytes(1, 300)
	mustAppend(t, h.j, record)
	h.d.PowerOff()
	h.d.PowerOn()
	expectContent(t, h.d, append(h.content, record))
}

// P3.13: each byte of each block of the content.
func TestDamage(t *testing.T) {
	h := newHistory(t)
	image := h.d.Image()
	base := look(image).base(image)
	_, entries := open(t, h.d)
	if len(entries) != len(h.content) {
		t.Fatal(entries)
	}
	for i, e := range entries {
		others := slices.Delete(slices.Clone(entries), i, i+1)
		for part := range disk.Cost(len(e.Data)) {
			for at := range 128 {
				for _, mask := range []byte{1, 2, 4, 8, 16, 32, 64, 128, 255, byte(at) | 1} {
					d := loadDisk(t, image)
					d.Rot(base+e.At+part, at, mask)
					j, left, code := disk.Open(d)
					if code != api.OK || !sameEntries(left, others) {
						t.Fatalf("record %d, part %d, byte %d, mask %d: %d entries, %v", i, part, at, mask, len(left), code)
					}
					if b, code := j.ReadAt(e.At); code != api.ErrNone || len(b) != 0 {
						t.Fatalf("record %d, part %d, byte %d, mask %d: it is read", i, part, at, mask)
					}
				}
			}
		}
	}
}

// P3.14: a Rewrite that was interrupted has used up its generation, so that its blocks are in no later record.
func TestGenerationsAfterTornRewrites(t *testing.T) {
	h := newHistory(t)
	g := h.j.Generation()
	left := records("left 0", "left 1", "left 2", "left 3", "left 4")
	for round := range 4 {
		h.d.Arm(5, round*4)
		if _, e := h.j.Rewrite(left); e != api.ErrDown {
			t.Fatal(e)
		}
		h.d.PowerOn()
		h.j, _ = open(t, h.d)
		if h.j.Generation() != g {
			t.Fatal("the generation of a torn Rewrite counts", h.j.Generation())
		}
	}
	mustRewrite(t, h.j, records("new"))
	if h.j.Generation() != g+5 {
		t.Error(h.j.Generation())
	}
	expectContent(t, h.d, records("new"))
}

// P3.14: the blocks of an Append that was interrupted are in no later record either.
func TestBlocksOfTornAppends(t *testing.T) {
	h := newHistory(t)
	h.d.Arm(2, 0)
	if _, e := h.j.Append(randomBytes(1, 310)); e != api.ErrDown {
		t.Fatal(e)
	}
	h.d.PowerOn()
	j, _ := open(t, h.d)
	if j.Free() != 0 {
		t.Error("an opened journal has room")
	}
	for range 2 {
		mustRewrite(t, j, h.content)
	}
	mustAppend(t, j, []byte("next"))
	expectContent(t, h.d, append(h.content, []byte("next")))
}

// crashes drives a journal through random calls and losses of power.
type crashes struct {
	history
	random *rand.Rand
	last   uint64 // the greatest generation of all successful Rewrites
	serial uint64
	torn   int
}

// record returns a record that no other one equals.
func (c *crashes) record() []byte {
	c.serial++
	return append([]byte{byte(c.serial >> 8), byte(c.serial)}, randomBytes(c.serial, c.random.IntN(330))...)
}

// restart gives the power back and checks that the content is one of two.
func (c *crashes) restart(t *testing.T, after [][]byte) {
	t.Helper()
	c.torn++
	c.d.PowerOn()
	j, entries := open(t, c.d)
	got := bytesOf(entries)
	if !sameRecords(got, c.content) && !sameRecords(got, after) {
		t.Fatalf("%d records, which are neither those before nor those after the call", len(got))
	}
	c.j, c.content = j, got
}

// rewrite rewrites the journal with some of its records and new ones.
func (c *crashes) rewrite(t *testing.T) {
	t.Helper()
	var list [][]byte
	for _, r := range c.content {
		if c.random.IntN(3) > 0 {
			list = append(list, r)
		}
	}
	if c.random.IntN(2) == 0 {
		list = append(list, c.record())
	}
	greatest := look(c.d.Image()).greatest
	switch _, e := c.j.Rewrite(list); e {
	case api.OK:
		if g := c.j.Generation(); g <= c.last || g <= greatest {
			t.Fatalf("the generation is %d after %d and %d", g, c.last, greatest)
		}
		c.last, c.content = c.j.Generation(), list
	case api.ErrDown:
		c.restart(t, list)
	case api.ErrFull:
		if len(blocksOf(1, 0, list...)) <= c.j.Area() {
			t.Fatal("there is room for the records")
		}
	default:
		t.Fatal(e)
	}
}

// append appends a new record.
func (c *crashes) append(t *testing.T) {
	t.Helper()
	r := c.record()
	after := append(slices.Clone(c.content), r)
	switch _, e := c.j.Append(r); e {
	case api.OK:
		c.content = after
	case api.ErrDown:
		c.restart(t, after)
	case api.ErrFull:
		if disk.Cost(len(r)) <= c.j.Free() {
			t.Fatal("there is room for the record")
		}
	case api.ErrState:
		if c.j.Free() != 0 {
			t.Fatal("a journal that has not written has room")
		}
	default:
		t.Fatal(e)
	}
}

// P3.12, P3.14: many calls, and many losses of power, one after another.
func TestManyCrashes(t *testing.T) {
	random := rand.New(rand.NewPCG(3, 3))
	torn := 0
	for range 60 {
		c := &crashes{random: random}
		c.d = newDisk(t, 4+random.IntN(30))
		c.j, _ = open(t, c.d)
		for range 80 {
			if random.IntN(3) == 0 {
				c.d.Arm(random.IntN(8), random.IntN(129))
			}
			switch random.IntN(5) {
			case 0, 1:
				c.rewrite(t)
			case 2, 3:
				c.append(t)
			default:
				expectContent(t, c.d, c.content)
				if random.IntN(2) == 0 {
					c.d.PowerOff()
				}
				c.d.PowerOn()
				c.j, _ = open(t, c.d)
			}
		}
		expectContent(t, c.d, c.content)
		torn += c.torn
	}
	if torn < 500 {
		t.Error("too few losses of power:", torn)
	}
}

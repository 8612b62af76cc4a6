package store_test

import (
	"math/rand/v2"
	"slices"
	"testing"

	"stolon/api"
	"stolon/disk"
	"stolon/store"
)

// variedItems returns objects whose records have 1 to 7 blocks.
func variedItems(t *testing.T) []item {
	t.Helper()
	text := func(n int) string { return string(make([]byte, n)) }
	list := []item{
		newItem(t, 1, 1, 1, ""),
		newItem(t, 1, 1, 1, "one block"),
		newItem(t, 1, 1, 1, "another block"),
		newItem(t, 1, 1, 2, "two"),
		newItem(t, 1, 2, 3, "two blocks"),
		newItem(t, 2, 3, 4, text(100)),
		newItem(t, 3, 5, 8, text(300)),
		newItem(t, 1, 1, 1, text(600)),
	}
	sortItems(list)
	return list
}

// trial is a store that is used at random, and its model.
type trial struct {
	r     *rand.Rand
	d     *disk.Disk
	s     *store.Store
	m     *model
	list  []item
	quiet bool // no loss of power
	seen  map[string]int
}

// newTrial returns a trial on a new disk.
func newTrial(t *testing.T, seed uint64) *trial {
	t.Helper()
	list := variedItems(t)
	r := rand.New(rand.NewPCG(seed, 4))
	area := 1 + r.IntN(24)
	quota := 100 + r.IntN(700)
	d := newDisk(t, area)
	s := open(t, d, quota)
	return &trial{r: r, d: d, s: s, m: newModel(area, quota, list), list: list, seen: make(map[string]int)}
}

// step makes one call of the store and of its model.
func (c *trial) step(t *testing.T) {
	t.Helper()
	it := c.list[c.r.IntN(len(c.list))]
	index := c.r.IntN(it.m.Total)
	var name string
	var call, same func() api.Errno
	switch n := c.r.IntN(100); {
	case n < 40:
		name, call, same = "Put", func() api.Errno { return c.s.Put(it.m, it.pieces[index]) }, func() api.Errno { return c.m.put(it, index) }
	case n < 60:
		name, call, same = "Drop", func() api.Errno { return c.s.Drop(it.id) }, func() api.Errno { return c.m.drop(it.id) }
	case n < 62:
		name, call, same = "Bury", func() api.Errno { return c.s.Bury(it.id) }, func() api.Errno { return c.m.bury(it.id) }
	case n < 72:
		above := uint64(c.r.IntN(int(c.m.inc) + 2))
		name, call, same = "Raise", func() api.Errno { return c.s.Raise(above) }, func() api.Errno { return c.m.raise(above) }
	case n < 80:
		name, call, same = "Get", func() api.Errno { return c.get(t, it) }, func() api.Errno { return c.m.get(it.id) }
	case n < 84:
		name, call, same = "Compact", c.s.Compact, func() api.Errno { return c.m.rewrite(func(*model, int) {}) }
	case n < 88:
		count := c.r.IntN(7) - 2
		if got, want := c.s.Scrub(count), c.m.scrub(count); !slices.Equal(got, want) {
			t.Fatalf("Scrub(%d) returns %x instead of %x", count, got, want)
		}
		return
	case n < 94:
		c.rot(t, it)
		return
	default:
		c.restart(t)
		return
	}
	c.compare(t, name, call, same)
}

// get calls Get and checks what it returns.
func (c *trial) get(t *testing.T, it item) api.Errno {
	t.Helper()
	m, p, e := c.s.Get(it.id)
	if e == api.OK && (!sameManifest(m, it.m) || p.Index != c.m.index[it.id] || string(p.Data) != string(it.pieces[p.Index].Data)) {
		t.Fatalf("Get returns %v, %v", m, p)
	}
	return e
}

// rot changes a byte of the record of an object that is held, unless this was done before.
func (c *trial) rot(t *testing.T, it item) {
	t.Helper()
	place, held := c.m.held[it.id]
	if !held || c.m.damaged[place] {
		return
	}
	at, blocks, e := c.s.Where(it.id)
	expect(t, "Where", e, api.OK)
	expect(t, "Rot", c.d.Rot(at+c.r.IntN(blocks), c.r.IntN(128), byte(1+c.r.IntN(255))), api.OK)
	c.m.damaged[place] = true
}

// compare makes a call, perhaps with a loss of power.
func (c *trial) compare(t *testing.T, name string, call, same func() api.Errno) {
	t.Helper()
	if !c.quiet && c.r.IntN(4) == 0 {
		expect(t, "Arm", c.d.Arm(c.r.IntN(8), c.r.IntN(129)), api.OK)
	}
	before := c.m.clone()
	got := call()
	want := same()
	if got == api.ErrDown && c.d.Down() {
		c.seen[name+" is interrupted"]++
		c.choose(t, name, before)
		return
	}
	if got != want {
		t.Fatalf("%s returns %d instead of %d", name, got, want)
	}
	c.seen[name]++
	if got != api.OK {
		c.seen[name+" fails"]++
	}
	if !c.m.agrees(t, c.d, c.s) {
		t.Fatalf("after %s: %d, the store is not as the model", name, got)
	}
}

// choose goes on after an interrupted call with the state before it or with the one after it, whichever the next Open finds.
func (c *trial) choose(t *testing.T, name string, before *model) {
	t.Helper()
	c.d.PowerOn()
	c.s = open(t, c.d, c.m.quota)
	c.m.reopen(c.m.quota)
	if c.m.agrees(t, c.d, c.s) {
		c.seen["the whole effect"]++
		return
	}
	before.reopen(c.m.quota)
	c.m = before
	c.seen["no effect"]++
	if !c.m.agrees(t, c.d, c.s) {
		t.Fatalf("after %s was interrupted, the store is neither as before nor as after", name)
	}
}

// restart opens the store again, sometimes with another quota and after a loss of power.
func (c *trial) restart(t *testing.T) {
	t.Helper()
	if c.r.IntN(2) == 0 {
		c.d.PowerOff()
		c.d.PowerOn()
	}
	quota := c.r.IntN(800)
	c.compare(t, "Open", func() api.Errno {
		s, e := store.Open(c.d, quota)
		if e == api.OK {
			c.s = s
		}
		return e
	}, func() api.Errno {
		c.m.reopen(quota)
		return api.OK
	})
}

// P4.1 to P4.9: a store does what the model does, byte by byte of its journal.
func TestStoreAgainstTheModel(t *testing.T) {
	seen := make(map[string]int)
	for seed := range uint64(60) {
		c := newTrial(t, seed)
		c.quiet, c.seen = true, seen
		for range 300 {
			c.step(t)
		}
	}
	for _, name := range []string{"Put", "Put fails", "Drop", "Drop fails", "Bury", "Raise", "Get", "Get fails", "Compact", "Open"} {
		if seen[name] == 0 {
			t.Error("never seen:", name)
		}
	}
}

// P4.10: an interrupted call has its whole effect or none, and the incarnation increases.
func TestManyCrashes(t *testing.T) {
	seen := make(map[string]int)
	for seed := range uint64(60) {
		c := newTrial(t, 1000+seed)
		c.seen = seen
		for range 300 {
			inc := c.m.inc
			c.step(t)
			if c.s.Incarnation() < inc {
				t.Fatal("the incarnation decreases")
			}
		}
	}
	for _, name := range []string{"Put", "Drop", "Bury", "Raise", "Compact", "Open"} {
		if seen[name+" is interrupted"] == 0 {
			t.Error("never interrupted:", name)
		}
	}
	if seen["the whole effect"] == 0 || seen["no effect"] == 0 {
		t.Error(seen)
	}
}

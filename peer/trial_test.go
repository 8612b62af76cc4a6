package peer_test

import (
	"bytes"
	"math/rand/v2"
	"slices"
	"strconv"
	"testing"

	"stolon/api"
	"stolon/digest"
	"stolon/disk"
	"stolon/peer"
	"stolon/place"
	"stolon/store"
	"stolon/wire"
)

// twin is a peer and its model, each on a disk of its own; both disks undergo the same.
type twin struct {
	p      *peer.Peer
	d      *disk.Disk
	o      *model
	e      *disk.Disk
	held   []api.Digest         // before the call that is under way
	keeps  map[api.Digest][]int // the senders of the Keeps since the shed of an object began
	rotten map[api.Digest]bool  // the objects whose piece was changed on the disk
}

// trial is a swarm of peers that are used at random.
type trial struct {
	t       *testing.T
	r       *rand.Rand
	quota   int
	wild    int // how often messages are forged
	fair    int // how often there are fair rounds
	twins   []*twin
	network []api.Message
	objects []object
	seen    map[string]int
}

// newTrial returns a trial in which no peer runs.
func newTrial(t *testing.T, seed uint64) *trial {
	t.Helper()
	r := rand.New(rand.NewPCG(seed, 9))
	peers := 2 + r.IntN(4)
	c := &trial{t: t, r: r, quota: 10 + r.IntN(200), wild: max(0, r.IntN(150)-50), fair: 10 + 90*r.IntN(2), seen: make(map[string]int)}
	if r.IntN(2) == 0 {
		c.quota = 100000
	}
	blocks := 16 + r.IntN(100)
	for range peers {
		c.twins = append(c.twins, &twin{d: newDisk(t, blocks), e: newDisk(t, blocks)})
	}
	for i := range 5 {
		n := 1 + r.IntN(peers)
		c.objects = append(c.objects, newObject(t, 1+r.IntN(n), n, peers, string(make([]byte, r.IntN(60)))+strconv.Itoa(i)))
	}
	c.objects = append(c.objects, forgedObject(t, 1+r.IntN(2), 2, peers, "the pieces do not belong together"))
	c.objects = append(c.objects, newObject(t, 1, 1+r.IntN(peers), peers+1, "of a greater swarm"))
	return c
}

// anyObject returns one of the objects.
func (c *trial) anyObject() object { return c.objects[c.r.IntN(len(c.objects))] }

// start starts a peer.
func (c *trial) start(i int) {
	w := c.twins[i]
	w.d.PowerOn()
	w.e.PowerOn()
	if c.r.IntN(8) == 0 {
		c.arm(w)
	}
	config := api.Config{Self: i, Peers: len(c.twins), Quota: c.quota}
	p, e := peer.Start(config, w.d)
	o, f := startModel(config, w.e)
	if e != f || (p == nil) != (o == nil) {
		c.t.Fatalf("Start returns %d instead of %d", e, f)
	}
	w.p, w.o = p, o
	w.keeps = make(map[api.Digest][]int)
	if p != nil {
		w.held = p.Held()
		c.after(i, "Start", api.Message{})
	}
	c.seen["Start"]++
}

// arm prepares a loss of power.
func (c *trial) arm(w *twin) {
	after, keep := c.r.IntN(12), c.r.IntN(129)
	w.d.Arm(after, keep)
	w.e.Arm(after, keep)
}

// runs reports whether a peer runs.
func (c *trial) runs(i int) bool { return c.twins[i].p.Running() }

// compare checks what a call of a peer has returned against what its model has returned.
func (c *trial) compare(i int, name string, msg api.Message, l, k []api.Message, e, f api.Errno) {
	c.t.Helper()
	if e != f {
		c.t.Fatalf("%s returns %d instead of %d", name, e, f)
	}
	expectMessages(c.t, name, l, k...)
	c.seen[name]++
	if e != api.OK {
		c.seen[name+" fails"]++
	}
	c.after(i, name, msg)
	c.network = append(c.network, l...)
	for _, msg := range l {
		c.seen[wire.Name(msg.Kind)]++
	}
	if len(c.network) > 60 {
		c.network = c.network[20:]
	}
}

// after checks a peer and its disk against the model, after a call.
func (c *trial) after(i int, name string, msg api.Message) {
	c.t.Helper()
	w := c.twins[i]
	if !bytes.Equal(w.d.Image(), w.e.Image()) || w.d.Down() != w.e.Down() {
		c.t.Fatal(name, "leaves another disk")
	}
	if got, want := w.p.Results(), w.o.fetchResults(); !sameResults(got, want) {
		c.t.Fatalf("%s: the results are %v instead of %v", name, got, want)
	} else {
		for _, r := range got {
			c.seen["result "+strconv.Itoa(int(r.Code))]++
			c.checkData(r)
		}
	}
	c.expectView(w, name)
	c.expectAdded(i, name)
	c.expectDropped(i, name, msg)
	w.held = w.p.Held()
}

// expectView checks the queries.
func (c *trial) expectView(w *twin, name string) {
	c.t.Helper()
	p, o := w.p, w.o
	if p.Running() == (o.down() || o.left) {
		c.t.Fatal(name, "Running", p.Running())
	}
	if o.down() {
		c.seen["down"]++
		expectNothing(c.t, name, p)
		return
	}
	var builds, sheds []api.Digest
	for _, b := range o.builds {
		builds = append(builds, b.object)
	}
	for _, s := range o.sheds {
		sheds = append(sheds, s.object)
	}
	var pending []uint64
	for _, x := range o.ops {
		pending = append(pending, x.ticket)
	}
	if p.Incarnation() != o.s.Incarnation() || !slices.Equal(p.Table(), o.m.Table()) || !slices.Equal(p.Records(), o.inv.Records()) ||
		!slices.Equal(p.Held(), o.s.Held()) || !slices.Equal(p.Builds(), ascending(builds)) || !slices.Equal(p.Sheds(), ascending(sheds)) ||
		!slices.Equal(p.Pending(), pending) {
		c.t.Fatal(name, "leaves another state")
	}
	c.seen["builds"] += len(builds)
	c.seen["sheds"] += len(sheds)
	for _, x := range c.objects {
		if got, want := p.Status(x.id), o.status(x.id); !sameStatus(got, want) {
			c.t.Fatalf("%s: the status is %v instead of %v", name, got, want)
		}
		at, blocks, e := p.Where(x.id)
		if a, b, f := o.s.Where(x.id); at != a || blocks != b || e != f {
			c.t.Fatal(name, "Where", at, blocks, e)
		}
	}
}

// checkData checks P9.12: the data of a restore.
func (c *trial) checkData(r api.Result) {
	c.t.Helper()
	if r.Kind == api.OpRestore && r.Code == api.OK {
		i := slices.IndexFunc(c.objects, func(x object) bool { return x.id == r.Object })
		if i < 0 || digest.SHA256(r.Data) != c.objects[i].m.Object || string(r.Data) != c.objects[i].data {
			c.t.Fatal("a restore has other data", r)
		}
	} else if len(r.Data) != 0 {
		c.t.Fatal("a result has data", r)
	}
}

// expectAdded checks P9.10: the pieces that a call has added.
func (c *trial) expectAdded(i int, name string) {
	c.t.Helper()
	w := c.twins[i]
	var added []api.Digest
	for _, id := range w.p.Held() {
		if !slices.Contains(w.held, id) {
			added = append(added, id)
			delete(w.rotten, id)
		}
	}
	if len(added) == 0 {
		return
	}
	s, e := store.Open(copyDisk(c.t, w.d), c.quota)
	if e != api.OK {
		return // there is no room to open it once more
	}
	for _, id := range added {
		c.seen["added by "+name]++
		m, p, e := s.Get(id)
		if got, _ := digest.ID(m); e != api.OK || got != id || p.Index != i || digest.CheckPiece(m, p) != api.OK || m.Total != len(c.twins) {
			c.t.Fatal(name, "adds the piece", p.Index, e)
		}
	}
}

// expectDropped checks P9.11: the pieces that are missing after a call.
func (c *trial) expectDropped(i int, name string, msg api.Message) {
	c.t.Helper()
	w := c.twins[i]
	if msg.Kind == api.KindKeep && w.keeps[msg.Object] != nil {
		w.keeps[msg.Object] = append(w.keeps[msg.Object], msg.From)
	}
	if w.p.Incarnation() == 0 {
		return // down
	}
	for _, id := range w.held {
		if slices.Contains(w.p.Held(), id) || w.p.Status(id).Buried || w.rotten[id] {
			continue
		}
		said, _ := w.o.saidOf(id)
		if msg.Kind != api.KindKeep || msg.Object != id || !place.Covered(id, i, said.N, w.keeps[id]) {
			c.t.Fatal(name, "drops a piece after Keeps from", w.keeps[id])
		}
		c.seen["dropped"]++
	}
}

// tick lets a peer tick.
func (c *trial) tick(i int) {
	draw := c.r.Uint64()
	l, e := c.twins[i].p.Tick(draw)
	k, f := c.twins[i].o.tick(draw)
	for _, msg := range l {
		if msg.Kind == api.KindAsk {
			c.twins[i].keeps[msg.Object] = []int{} // a shed begins
		}
	}
	c.compare(i, "Tick", api.Message{}, l, k, e, f)
}

// deliver lets a message be received.
func (c *trial) deliver(i int, msg api.Message) {
	l, e := c.twins[i].p.Receive(wire.Clone(msg))
	k, f := c.twins[i].o.receive(wire.Clone(msg))
	c.compare(i, "Receive "+wire.Name(msg.Kind), msg, l, k, e, f)
}

// call makes a call of a client.
func (c *trial) call(i int) {
	w, x := c.twins[i], c.anyObject()
	if i := c.r.IntN(len(c.objects)); c.r.IntN(2) == 0 {
		x = c.objects[i]
	}
	switch n := c.r.IntN(100); {
	case n < 50:
		k, n, data := x.m.K, x.m.N, []byte(x.data)
		if c.r.IntN(10) == 0 {
			k, n, data = c.r.IntN(7)-1, c.r.IntN(7)-1, make([]byte, 8191+c.r.IntN(3))
		}
		if len(data) == 8192 {
			data = data[:9] // the pieces would be too large for the disks
		}
		ticket, id, l, e := w.p.Backup(k, n, data)
		ticket2, id2, l2, e2 := w.o.backup(k, n, data)
		if ticket != ticket2 || id != id2 {
			c.t.Fatal("Backup returns", ticket, id)
		}
		c.compare(i, "Backup", api.Message{}, l, l2, e, e2)
	case n < 92:
		ticket, l, e := w.p.Restore(x.id)
		ticket2, l2, e2 := w.o.restore(x.id)
		if ticket != ticket2 {
			c.t.Fatal("Restore returns", ticket)
		}
		c.compare(i, "Restore", api.Message{}, l, l2, e, e2)
	case n < 94:
		e, e2 := w.p.Delete(x.id), w.o.remove(x.id)
		c.compare(i, "Delete", api.Message{}, nil, nil, e, e2)
	case n == 99:
		l, e := w.p.Leave()
		l2, e2 := w.o.leave()
		c.compare(i, "Leave", api.Message{}, l, l2, e, e2)
	}
}

// rot changes a byte of a piece on the disks.
func (c *trial) rot(w *twin) {
	x := c.anyObject()
	at, blocks, e := w.p.Where(x.id)
	if e != api.OK {
		return
	}
	block, byteAt, mask := at+c.r.IntN(blocks), c.r.IntN(128), byte(1+c.r.IntN(255))
	w.d.Rot(block, byteAt, mask)
	w.e.Rot(block, byteAt, mask)
	if w.rotten == nil {
		w.rotten = make(map[api.Digest]bool)
	}
	w.rotten[x.id] = true
	c.seen["rot"]++
}

// fault lets something happen to a disk.
func (c *trial) fault(i int) {
	w := c.twins[i]
	switch n := c.r.IntN(10); {
	case n < 2 && w.p != nil:
		w.d.PowerOff()
		w.e.PowerOff()
		c.after(i, "PowerOff", api.Message{})
	case n < 6:
		c.arm(w)
	case n == 6 && !c.runs(i):
		w.d.Wipe()
		w.e.Wipe()
		w.p, w.o = nil, nil
	case w.p != nil:
		c.rot(w)
	}
}

// step lets something happen to the swarm.
func (c *trial) step() {
	i := c.r.IntN(len(c.twins))
	switch n := c.r.IntN(1000); {
	case !c.runs(i) && n < 600:
		c.start(i)
	case n < 20:
		c.fault(i)
	case c.twins[i].p == nil:
	case n < 100:
		c.call(i)
	case n < 240 && c.r.IntN(100) < c.wild:
		c.deliver(i, c.forged(i))
	case n < 400:
		c.tick(i)
	case n < 400+c.fair:
		c.round()
	case len(c.network) > 0:
		c.deliverOne(c.r.IntN(len(c.network)))
	}
}

// deliverOne delivers a message of the network, or loses it, and perhaps keeps it.
func (c *trial) deliverOne(number int) {
	msg := c.network[number]
	if c.r.IntN(10) != 0 {
		c.network = slices.Delete(c.network, number, number+1)
	}
	if c.twins[msg.To].p != nil && c.r.IntN(10) != 0 {
		c.deliver(msg.To, msg)
	}
}

// round lets all peers tick and then delivers all messages that were under way.
func (c *trial) round() {
	l := c.network
	c.network = nil
	for i := range c.twins {
		if c.runs(i) {
			c.tick(i)
		}
	}
	for _, number := range c.r.Perm(len(l)) {
		if msg := l[number]; c.runs(msg.To) {
			c.deliver(msg.To, msg)
		}
	}
}

// P9.1 to P9.12: peers do what their models do, whatever happens to them.
func TestPeersLikeTheModel(t *testing.T) {
	const runs = 8
	counts := make(chan map[string]int, runs)
	t.Run("trials", func(t *testing.T) {
		for run := range runs {
			t.Run(strconv.Itoa(run), func(t *testing.T) {
				t.Parallel()
				total := make(map[string]int)
				for seed := range uint64(20) {
					c := newTrial(t, uint64(run)*1000+seed)
					c.seen = total
					for range 500 {
						c.step()
					}
				}
				counts <- total
			})
		}
	})
	close(counts)
	seen := make(map[string]int)
	for total := range counts {
		for name, count := range total {
			seen[name] += count
		}
	}
	for name, least := range map[string]int{
		"Start": 500, "Tick": 10000, "Leave": 20, "Delete": 40, "Delete fails": 20, "Backup": 1000, "Backup fails": 100, "Restore": 1000, "Restore fails": 10,
		"Receive ping": 5000, "Receive pingreq": 2000, "Receive ack": 5000, "Receive sum": 5000, "Receive items": 5000, "Receive items fails": 20,
		"Receive claim": 200, "Receive fetch": 500, "Receive offer": 300, "Receive lack": 100, "Receive install": 1000, "Receive stored": 1000, "Receive ask": 100, "Receive keep": 100,
		"result 0": 1000, "result 12": 300, "result 20": 3, "result 30": 10, "result 40": 50, "result 41": 5, "result 8": 20, "result 90": 10,
		"builds": 3000, "sheds": 3000, "added by Receive offer": 20, "added by Receive install": 300, "added by Backup": 200, "dropped": 15, "rot": 50, "down": 300,
	} {
		if seen[name] < least {
			t.Error("seldom seen:", name, seen[name])
		}
	}
}

package swarm_test

import (
	"bytes"
	"fmt"
	"math/rand/v2"
	"slices"
	"testing"

	"stolon/api"
	"stolon/digest"
	"stolon/disk"
	"stolon/rs"
	"stolon/store"
	"stolon/swarm"
)

// object is an object that Backup was called with.
type object struct {
	m       api.Manifest
	pieces  []api.Piece
	data    []byte
	deleted bool // a Delete of it was called
}

// content is what the disk of a peer contains.
type content struct {
	image  []byte
	sound  map[api.Digest]bool // the objects of which it has a sound piece
	graves []api.Digest
}

// memory is what a peer has and knows.
type memory struct {
	held, graves []api.Digest
	inc          uint64
	torn         bool // its power was lost in a call, and this is what was before that
	rotten       bool // its disk was wiped or rotten since it was started
}

// history is a world to which events happen at random, with what is known of them.
type history struct {
	t       *testing.T
	r       *rand.Rand
	w       *swarm.World
	setup   api.Setup
	script  []api.Event
	weights [15]int // how often each kind of events happens
	arms    int     // a torn write comes after less writes than this
	objects map[api.Digest]*object
	disks   []content
	peers   []memory
	seen    map[string]int
}

// newHistory returns a world in which nothing has happened. Its disks and its quota are never too small.
func newHistory(t *testing.T, seed uint64) *history {
	t.Helper()
	r := rand.New(rand.NewPCG(seed, 10))
	h := &history{t: t, r: r, objects: make(map[api.Digest]*object), seen: make(map[string]int), arms: 1 + r.IntN(12)}
	h.begin(api.Setup{Peers: 2 + r.IntN(2+5*r.IntN(2)), Blocks: 300, Quota: 1 << 20})
	for kind, weight := range [...]int{
		api.EvTick: 100, api.EvDeliver: 300, api.EvLose: 50, api.EvCopy: 50, api.EvBackup: 12, api.EvRestore: 8, api.EvDelete: 1, api.EvStart: 30,
		api.EvCrash: 4, api.EvArm: 6, api.EvWipe: 4, api.EvRot: 4, api.EvLeave: 2, api.EvRound: 40,
	} {
		h.weights[kind] = weight * r.IntN(4)
	}
	h.weights[api.EvStart] += 5
	h.weights[api.EvTick] += 20
	return h
}

// begin begins with a new world.
func (h *history) begin(s api.Setup) {
	h.t.Helper()
	w, e := swarm.New(s)
	if e != api.OK {
		h.t.Fatal("New", e)
	}
	h.w, h.setup = w, s
	h.disks, h.peers = make([]content, s.Peers), make([]memory, s.Peers)
}

// narrow begins anew with disks and a quota that may be too small.
func (h *history) narrow() {
	h.t.Helper()
	s := h.setup
	s.Blocks = 4 + h.r.IntN(60)
	if h.r.IntN(2) == 0 {
		s.Quota = h.r.IntN(200)
	}
	h.begin(s)
}

// anyKind returns a kind of events.
func (h *history) anyKind() api.EventKind {
	sum := 0
	for _, weight := range h.weights {
		sum += weight
	}
	n := h.r.IntN(sum)
	kind := 0
	for n >= h.weights[kind] {
		n -= h.weights[kind]
		kind++
	}
	return api.EventKind(kind)
}

// anyEvent returns an event.
func (h *history) anyEvent() api.Event {
	e := api.Event{Kind: h.anyKind(), Peer: h.r.IntN(h.setup.Peers), A: h.r.IntN(1 << 16), B: h.r.IntN(1 << 16), Draw: h.r.Uint64()}
	switch e.Kind {
	case api.EvBackup:
		e.B = 1 + h.r.IntN(h.setup.Peers)
		e.A = 1 + h.r.IntN(e.B)
		n := h.r.IntN(3)
		e.Data = bytes.Repeat([]byte{byte('a' + n)}, n*h.r.IntN(60))
	case api.EvArm:
		e.A, e.B = h.r.IntN(h.arms), h.r.IntN(129)
	}
	return e
}

// do lets an event happen, and checks what it does to the disks and the peers.
func (h *history) do(e api.Event) bool {
	h.t.Helper()
	h.script = append(h.script, e)
	h.note(e)
	running := h.w.Running()
	applies := h.w.Do(e)
	if applies {
		h.seen[fmt.Sprint("kind ", e.Kind)]++
	}
	for i := range h.disks {
		h.look(i, e.Kind, applies && i == e.Peer, slices.Contains(running, i))
	}
	return applies
}

// note notes what the clients ask for.
func (h *history) note(e api.Event) {
	if e.Kind == api.EvBackup {
		m, pieces, code := digest.Make(rs.NewField(), e.A, e.B, h.setup.Peers, e.Data)
		id, _ := digest.ID(m)
		if code == api.OK && h.objects[id] == nil {
			h.objects[id] = &object{m: m, pieces: pieces, data: e.Data}
		}
	}
	if l := h.w.Objects(); e.Kind == api.EvDelete && slices.Contains(h.w.Running(), e.Peer) && len(l) > 0 {
		h.objects[l[e.A%len(l)]].deleted = true
	}
}

// look looks at a peer and its disk after an event. It is told whether this has happened to the peer, and whether it ran before.
func (h *history) look(i int, kind api.EventKind, own, ran bool) {
	h.t.Helper()
	if image := h.w.Image(i); !bytes.Equal(image, h.disks[i].image) {
		h.disks[i] = h.read(i, image)
	}
	last := &h.peers[i]
	if own && (kind == api.EvWipe || kind == api.EvRot) {
		last.rotten = true
	}
	switch runs := slices.Contains(h.w.Running(), i); {
	case runs && own && kind == api.EvStart:
		h.expectRemembered(i)
		h.peers[i] = memoryOf(h.w, i, h.disks[i])
	case runs:
		rotten := last.rotten
		h.peers[i] = memoryOf(h.w, i, h.disks[i])
		h.peers[i].rotten = rotten
	case ran && (!own || kind != api.EvCrash && kind != api.EvLeave):
		last.torn = true
		h.seen["torn"]++
	}
}

// memoryOf returns what a peer has and knows. Of the graves that it knows, only those count that are on its disk: there may be no room for others.
func memoryOf(w *swarm.World, i int, c content) memory {
	m := memory{held: w.Held(i), inc: w.Incarnation(i)}
	for _, r := range w.Records(i) {
		if r.Kind == api.RecordGrave && slices.Contains(c.graves, r.Object) {
			m.graves = append(m.graves, r.Object)
		}
	}
	return m
}

// expectRemembered checks P10.13 for a peer that has just started: it has and knows what its predecessor had and knew.
func (h *history) expectRemembered(i int) {
	h.t.Helper()
	before, now := h.peers[i], memoryOf(h.w, i, h.disks[i])
	if before.rotten {
		return
	}
	if now.inc <= before.inc {
		h.t.Fatal("the incarnation of peer", i, "was", before.inc, "and is", now.inc)
	}
	if !before.torn && (!slices.Equal(now.held, before.held) || !slices.Equal(now.graves, before.graves)) {
		h.t.Fatal("peer", i, "does not remember", before, now)
	}
	h.seen["remembered"] += len(before.held)
}

// read returns what a disk of a peer contains. It checks P10.8: whatever piece there is, is that of the object.
func (h *history) read(i int, image []byte) content {
	h.t.Helper()
	c := content{image: image, sound: make(map[api.Digest]bool)}
	d, _ := disk.LoadDisk(image)
	s, e := store.Open(d, 1<<30)
	if e != api.OK {
		h.t.Fatal("a disk can not be opened", e)
	}
	for _, id := range s.Held() {
		m, p, e := s.Get(id)
		o := h.objects[id]
		if e != api.OK || o == nil || p.Index != i || !bytes.Equal(p.Data, o.pieces[i].Data) || !slices.Equal(m.Pieces, o.m.Pieces) {
			h.t.Fatal("peer", i, "has a wrong piece", p, e)
		}
		c.sound[id] = true
		h.seen["sound pieces"]++
	}
	c.graves = s.Graves()
	return c
}

// holders returns the peers on whose disks there is a sound piece of an object.
func (h *history) holders(id api.Digest) []int {
	var l []int
	for i, c := range h.disks {
		if c.sound[id] {
			l = append(l, i)
		}
	}
	return l
}

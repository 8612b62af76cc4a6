package peer_test

import (
	"slices"
	"testing"

	"stolon/api"
	"stolon/peer"
)

// sameStatus reports whether two statuses have the same fields.
func sameStatus(a, b api.ObjectStatus) bool {
	return a.Held == b.Held && a.Buried == b.Buried && a.K == b.K && a.N == b.N && a.Live == b.Live && slices.Equal(a.Holders, b.Holders)
}

// expectNothing checks that the queries of a peer return zero values.
func expectNothing(t *testing.T, name string, p *peer.Peer) {
	t.Helper()
	if p.Running() || p.Incarnation() != 0 || len(p.Table()) != 0 || len(p.Records()) != 0 || len(p.Held()) != 0 || len(p.Builds()) != 0 ||
		len(p.Sheds()) != 0 || len(p.Pending()) != 0 || len(p.Results()) != 0 || !sameStatus(p.Status(api.Digest{}), api.ObjectStatus{}) {
		t.Error(name, "leaves something")
	}
	at, blocks, e := p.Where(api.Digest{})
	want := api.ErrDown
	if p == nil {
		want = api.ErrNil
	}
	if at != 0 || blocks != 0 || e != want {
		t.Error(name, "Where", at, blocks, e)
	}
}

// expectStatus checks the status of an object.
func (n node) expectStatus(name string, o object, want api.ObjectStatus) {
	n.t.Helper()
	if got := n.Status(o.id); !sameStatus(got, want) {
		n.t.Errorf("%s: the status is %v instead of %v", name, got, want)
	}
}

// Example 2, P9.9: the status of an object.
func TestStatus(t *testing.T) {
	held, known, strange := newObject(t, 2, 3, 4, "held"), newObject(t, 1, 4, 4, "known"), newObject(t, 3, 3, 4, "strange")
	n := start(t, 1, 4)
	n.meet(table(4, 0, 3))
	n.hold(held)
	n.learnHolders(known, 3, 2, 0)
	n.expectStatus("held", held, api.ObjectStatus{Held: true, K: 2, N: 3, Holders: []int{1}, Live: 1})
	n.expectStatus("known", known, api.ObjectStatus{K: 1, N: 4, Holders: []int{0, 2, 3}, Live: 2})
	n.expectStatus("unknown", strange, api.ObjectStatus{})
	n.learn(lostRecord(known, 0, 1, 2))
	n.expectStatus("one holder less", known, api.ObjectStatus{K: 1, N: 4, Holders: []int{2, 3}, Live: 1})
	// A record of no peer of this swarm, with another demand.
	other := heldRecord(held, 9, 1, 1)
	n.learn(other, lostRecord(known, 3, 1, 2), lostRecord(known, 2, 1, 2))
	n.expectStatus("a strange holder", held, api.ObjectStatus{Held: true, K: 2, N: 3, Holders: []int{1, 9}, Live: 1})
	n.expectStatus("no holder", known, api.ObjectStatus{})
	first := heldRecord(held, 0, 1, 1)
	first.K, first.N = 1, 2
	n.learn(first)
	n.expectStatus("another demand", held, api.ObjectStatus{Held: true, K: 1, N: 2, Holders: []int{0, 1, 9}, Live: 2})
	l := n.Table()
	l[0].Status = api.Suspect
	n.meet(l)
	n.expectStatus("suspected", held, api.ObjectStatus{Held: true, K: 1, N: 2, Holders: []int{0, 1, 9}, Live: 2})
	l[0].Status = api.Dead
	n.meet(l)
	n.expectStatus("dead", held, api.ObjectStatus{Held: true, K: 1, N: 2, Holders: []int{0, 1, 9}, Live: 1})
	expectCode(t, "Delete", n.Delete(held.id), api.OK)
	n.expectStatus("deleted", held, api.ObjectStatus{Buried: true})
}

// P9.9: lists are in ascending order.
func TestLists(t *testing.T) {
	n := startLive(t, 2, 4)
	var held, builds, sheds []object
	var pending []uint64
	for i := range 30 {
		o := newObject(t, 1, 2, 4, string(rune('A'+i)))
		switch at := slices.Index(o.rank, 2); {
		case at < 2 && i%2 == 0:
			n.learnHolders(o, 1)
			builds = append(builds, o)
		case at < 2:
			n.hold(o)
			held = append(held, o)
		default:
			n.hold(o)
			held, sheds = append(held, o), append(sheds, o)
		}
		ticket, _ := n.backup(newObject(t, 1, 4, 4, "backup "+string(rune('A'+i))))
		pending = append(pending, ticket)
	}
	n.tick()
	n.expectTasks("many", builds, sheds)
	n.expectPending("many", pending...)
	if got := n.Held(); !slices.Equal(got, ascending(got)) || len(got) != len(held)+30 {
		t.Error("Held", got)
	}
}

// P9.9: Where names the blocks of the own piece.
func TestWhere(t *testing.T) {
	a, b := newObject(t, 1, 1, 2, string(make([]byte, 300))), newObject(t, 1, 1, 2, "b")
	n := start(t, 1, 2)
	n.hold(a, b)
	first, blocks, e := n.Where(a.id)
	if e != api.OK || blocks != 4 {
		t.Error("Where", first, blocks, e)
	}
	if at, blocks, e := n.Where(b.id); at != first+4 || blocks != 2 || e != api.OK {
		t.Error("Where", at, blocks, e)
	}
	if at, blocks, e := n.Where(api.Digest{}); at != 0 || blocks != 0 || e != api.ErrNone {
		t.Error("Where", at, blocks, e)
	}
}

// R4: what queries return is not in the peer's memory.
func TestMemoryOfQueries(t *testing.T) {
	build, shed := rankedObject(t, 1, 1, 3, 1, 0), rankedObject(t, 1, 1, 3, 1, 2)
	n := startLive(t, 1, 3)
	n.hold(shed)
	n.learnHolders(build, 0)
	n.tick()
	n.backup(newObject(t, 1, 3, 3, "pending"))
	for range 2 {
		if len(n.Table()) != 3 || n.Table()[0].Inc != 1 || n.Records()[0] != baseRecord(1, 1) || n.Status(build.id).K != 1 {
			t.Error("a result is in the peer's memory")
		}
		n.expectTasks("tasks", []object{build}, []object{shed})
		n.expectPending("tasks", 1)
		if s := n.Status(build.id); !slices.Equal(s.Holders, []int{0}) {
			t.Error("Holders", s.Holders)
		}
		clear(n.Table())
		clear(n.Records())
		clear(n.Held())
		clear(n.Builds())
		clear(n.Sheds())
		clear(n.Pending())
		n.Status(build.id).Holders[0] = 2
	}
}

// R3: the methods of a nil Peer.
func TestNil(t *testing.T) {
	var p *peer.Peer
	expectRefusal(t, "nil", p, api.ErrNil)
	expectNothing(t, "nil", p)
}

// A peer is down as soon as its disk has lost its power, for ever, or another one was started on it.
func TestDown(t *testing.T) {
	o := newObject(t, 1, 2, 2, "object")
	fresh := func() node {
		n := startLive(t, 1, 2)
		n.hold(o)
		n.backup(o)
		_, _, e := n.Restore(api.Digest{})
		expectCode(t, "Restore", e, api.OK)
		return n
	}
	n := fresh()
	n.disk.PowerOff()
	expectRefusal(t, "down", n.Peer, api.ErrDown)
	expectNothing(t, "down", n.Peer)
	n.disk.PowerOn()
	expectRefusal(t, "down, with power", n.Peer, api.ErrDown)
	expectNothing(t, "down, with power", n.Peer)
	n = fresh()
	later := startOn(t, n.disk, 1, 2)
	expectRefusal(t, "replaced", n.Peer, api.ErrDown)
	expectNothing(t, "replaced", n.Peer)
	later.expectHeld("the later one", o)
	if !later.Running() {
		t.Error("the later one is down")
	}
}

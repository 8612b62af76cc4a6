package peer_test

import (
	"bytes"
	"math"
	"slices"
	"testing"

	"stolon/api"
	"stolon/disk"
	"stolon/peer"
	"stolon/store"
)

// P9.1: a peer on a new disk.
func TestStart(t *testing.T) {
	for _, c := range []api.Config{{Self: 0, Peers: 2}, {Self: 1, Peers: 2, Quota: 5}, {Self: 15, Peers: 16, Quota: math.MaxInt}, {Self: 3, Peers: 7, Quota: 1}} {
		d := newDisk(t, 4)
		p, e := peer.Start(c, d)
		if e != api.OK {
			t.Fatal("Start returns", e, c)
		}
		n := node{p, t, c.Self, c.Peers, d}
		if !p.Running() || p.Incarnation() != 1 || !slices.Equal(p.Table(), table(c.Peers, c.Self)) {
			t.Error(p.Running(), p.Incarnation(), p.Table())
		}
		n.expectRecords("new", baseRecord(c.Self, 1))
		n.expectHeld("new")
		n.expectTasks("new", nil, nil)
		n.expectPending("new")
		n.expectResults("new")
	}
}

// P9.1, R1, R2: the errors of Start, in their order; they leave the disk and an earlier peer as they are.
func TestStartErrors(t *testing.T) {
	valid := api.Config{Self: 1, Peers: 3, Quota: 1000}
	for _, c := range []api.Config{
		{}, {Self: 0, Peers: 1}, {Self: 0, Peers: 17}, {Self: 0, Peers: -3}, {Self: 0, Peers: math.MaxInt},
		{Self: -1, Peers: 3}, {Self: 3, Peers: 3}, {Self: math.MinInt, Peers: 3}, {Self: 16, Peers: 16}, {Self: 0, Peers: 2, Quota: -1}, {Self: 0, Peers: 2, Quota: math.MinInt},
	} {
		n := start(t, 0, 2)
		off := newDisk(t, 8)
		off.PowerOff()
		for _, d := range []*disk.Disk{n.disk, off} {
			before := d.Image()
			if p, e := peer.Start(c, d); p != nil || e != api.ErrArg {
				t.Error(c, "Start returns", e)
			}
			if !bytes.Equal(d.Image(), before) {
				t.Error(c, "Start changes the disk")
			}
		}
		if p, e := peer.Start(c, nil); p != nil || e != api.ErrNil {
			t.Error(c, "Start without a disk returns", e)
		}
		if !n.Running() {
			t.Error(c, "an earlier peer is down")
		}
	}
	off := newDisk(t, 8)
	off.PowerOff()
	if p, e := peer.Start(valid, off); p != nil || e != api.ErrDown {
		t.Error("Start without power returns", e)
	}
	last := newDisk(t, 8)
	s, _ := store.Open(last, 0)
	expectCode(t, "Raise", s.Raise(math.MaxUint64-1), api.OK)
	if p, e := peer.Start(valid, last); p != nil || e != api.ErrFull {
		t.Error("Start in the last incarnation returns", e)
	}
}

// P9.1, T5: the power is lost at each write of Start.
func TestStartWithoutPower(t *testing.T) {
	o := newObject(t, 1, 1, 3, "held")
	n := startLive(t, 1, 3)
	n.hold(o)
	writes := 0
	for ; ; writes++ {
		d := copyDisk(t, n.disk)
		d.Arm(writes, 6)
		p, e := peer.Start(api.Config{Self: 1, Peers: 3, Quota: 1000}, d)
		if e == api.OK {
			break
		}
		if p != nil || e != api.ErrDown {
			t.Error("Start returns", e)
		}
		d.PowerOn()
		// The interrupted call had no effect, as not all of its last block was written.
		if n := startOn(t, d, 1, 3); n.Incarnation() != 2 || !n.Status(o.id).Held {
			t.Error("after the next Start", n.Incarnation(), n.Held())
		}
	}
	if writes < 3 {
		t.Error("Start writes only", writes)
	}
}

// P9.1: a peer that starts again knows what is in its store, and nothing else.
func TestStartAgain(t *testing.T) {
	n := startLive(t, 1, 3)
	a, b, c := newObject(t, 1, 1, 3, "a"), newObject(t, 2, 3, 3, "b"), newObject(t, 1, 2, 3, "c")
	gone, dropped := newObject(t, 1, 1, 3, "gone"), newObject(t, 1, 2, 3, "never held")
	n.hold(a, b, c, gone)
	expectCode(t, "Delete", n.Delete(gone.id), api.OK)
	n.learnHolders(dropped, 0, 2)
	n.restore(dropped)
	n.restore(b)
	n.ticks(3)
	n = startAgain(n)
	if n.Incarnation() != 2 || !slices.Equal(n.Table(), []api.Member{{}, {Inc: 2, Status: api.Alive}, {}}) {
		t.Error(n.Incarnation(), n.Table())
	}
	n.expectHeld("again", a, b, c)
	want := []api.Record{baseRecord(1, 2), graveRecord(gone.id)}
	list := []object{a, b, c}
	for i, id := range ids(a, b, c) {
		at := slices.IndexFunc(list, func(o object) bool { return o.id == id })
		want = append(want, heldRecord(list[at], 1, 2, uint64(i+1)))
	}
	n.expectRecords("again", want...)
	n.expectTasks("again", nil, nil)
	n.expectPending("again")
	n.expectResults("again")
	n.expectStatus("buried", gone, api.ObjectStatus{Buried: true})
	n.expectStatus("forgotten", dropped, api.ObjectStatus{})
	if ticket, _ := n.restore(a); ticket != 1 {
		t.Error("the first ticket is", ticket)
	}
	n.greet()
	l := n.tick()
	if last := l[len(l)-1]; last.Kind != api.KindSum || last.To != 2 {
		t.Error("the first summary is not for the peer after itself", last)
	}
	n.expectHeld("the disk has not changed", a, b, c)
}

// P9.1: a damaged piece is not announced, and is not held any more. The numbers of the records have no gap.
func TestStartWithDamage(t *testing.T) {
	n := startLive(t, 0, 2)
	list := []object{newObject(t, 1, 1, 2, "a"), newObject(t, 1, 1, 2, "b"), newObject(t, 1, 1, 2, "c")}
	slices.SortFunc(list, func(a, b object) int { return bytes.Compare(a.id[:], b.id[:]) })
	n.hold(list...)
	n.rot(list[1])
	n = startAgain(n)
	n.expectHeld("again", list[0], list[2])
	n.expectRecords("again", baseRecord(0, 2), heldRecord(list[0], 0, 2, 1), heldRecord(list[2], 0, 2, 2))
}

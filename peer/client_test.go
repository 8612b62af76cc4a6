package peer_test

import (
	"bytes"
	"math"
	"slices"
	"testing"

	"stolon/api"
	"stolon/peer"
	"stolon/wire"
)

// P9.4, R1, R2: the errors of Backup, in their order; they take no ticket.
func TestBackupErrors(t *testing.T) {
	n := start(t, 0, 4)
	n.meet(table(4, 1, 2))
	long := make([]byte, 8193)
	deleted, buried := newObject(t, 1, 2, 4, "deleted"), newObject(t, 2, 3, 4, "buried")
	n.learn(graveRecord(deleted.id))
	n.hold(buried)
	expectCode(t, "Delete", n.Delete(buried.id), api.OK)
	image := n.disk.Image()
	for _, c := range []struct {
		name string
		k, n int
		data []byte
		want api.Errno
	}{
		{"no k", 0, 1, nil, api.ErrArg},
		{"k below 0", math.MinInt, 1, nil, api.ErrArg},
		{"k above n", 3, 2, nil, api.ErrArg},
		{"n above the number of peers", 1, 5, nil, api.ErrArg},
		{"the greatest n", 1, math.MaxInt, nil, api.ErrArg},
		{"n below 0", -2, -1, nil, api.ErrArg},
		{"k above n, and long", 2, 1, long, api.ErrArg},
		{"long", 1, 1, long, api.ErrLong},
		{"long, and too few are live", 1, 4, long, api.ErrLong},
		{"too few are live", 1, 4, nil, api.ErrLive},
		{"too few are live for all pieces", 4, 4, long[:8192], api.ErrLive},
		{"deleted", 1, 2, []byte("deleted"), api.ErrGone},
		{"buried", 2, 3, []byte("buried"), api.ErrGone},
	} {
		ticket, id, l, e := n.Backup(c.k, c.n, c.data)
		if ticket != 0 || id != (api.Digest{}) || len(l) != 0 || e != c.want {
			t.Errorf("%s: Backup returns %d, %x, %v and %d instead of %d", c.name, ticket, id, l, e, c.want)
		}
	}
	n.expectPending("after errors")
	n.expectResults("after errors")
	if !bytes.Equal(n.disk.Image(), image) {
		t.Error("an error has changed the disk")
	}
	if ticket, _ := n.backup(newObject(t, 1, 3, 4, "ok")); ticket != 1 {
		t.Error("the first ticket is", ticket)
	}
}

// P9.4: a deleted object, as the store or the inventory alone knows.
func TestBackupOfADeletedObject(t *testing.T) {
	n := startLive(t, 0, 2)
	o, last := newObject(t, 1, 1, 2, "object"), newObject(t, 1, 1, 2, "last")
	n.hold(o)
	expectCode(t, "Delete", n.Delete(o.id), api.OK)
	for range 2 {
		if _, _, _, e := n.Backup(1, 1, []byte("object")); e != api.ErrGone {
			t.Error("Backup returns", e)
		}
		n = startAgain(n)
	}
	// On a disk without room, the inventory alone has the grave.
	small := startOn(t, newDisk(t, 4), 0, 2)
	small.learn(graveRecord(last.id))
	if again := startAgain(small); len(again.Records()) != 1 {
		t.Fatal("there was room for the grave", again.Records())
	}
	small = startOn(t, newDisk(t, 4), 0, 2)
	small.learn(graveRecord(last.id))
	if _, _, _, e := small.Backup(1, 1, []byte("last")); e != api.ErrGone {
		t.Error("Backup returns", e)
	}
	if _, _, e := small.Restore(last.id); e != api.ErrGone {
		t.Error("Restore returns", e)
	}
	if !small.Status(last.id).Buried {
		t.Error("not buried")
	}
}

// P9.4: the chosen live peers are asked, the best first; the peer itself puts its piece at once.
func TestBackup(t *testing.T) {
	const self = 2
	for at := range 4 {
		for k := 1; k <= 3; k++ {
			o := rankedObject(t, k, 3, 6, self, at)
			n := startLive(t, self, 6)
			n.tick()
			ticket, l := n.backup(o)
			others := without(slices.Clone(o.rank[:3]), self)
			expectMessages(t, "Backup", l, about(api.KindInstall, self, o, others...)...)
			n.expectPending("Backup", ticket)
			var held []object
			if at < 3 {
				held = []object{o}
				n.expectRecords("Backup", baseRecord(self, 1), heldRecord(o, self, 1, 1))
			}
			n.expectHeld("Backup", held...)
			for i, from := range others {
				n.expectResults("some have answered")
				n.stored(from, o.id, api.OK)
				if i+1 < len(others) {
					n.expectPending("some have answered", ticket)
				}
			}
			n.expectPending("all have answered")
			n.expectResults("all have answered", endOf(ticket, api.OpBackup, o, api.OK))
		}
	}
}

// P9.4: only live peers are chosen.
func TestBackupAmongTheLive(t *testing.T) {
	o := rankedObject(t, 1, 2, 5, 3, 4)
	n := start(t, 3, 5)
	n.meet(table(5, o.rank[2], o.rank[1]))
	_, l := n.backup(o)
	expectMessages(t, "two others are live", l, about(api.KindInstall, 3, o, o.rank[1], o.rank[2])...)
	n.expectHeld("two others are live")
	n = start(t, 3, 5)
	n.meet(table(5, o.rank[2]))
	ticket, l := n.backup(o)
	expectMessages(t, "one other is live", l, about(api.KindInstall, 3, o, o.rank[2])...)
	n.expectHeld("one other is live", o)
	n.expectPending("one other is live", ticket)
}

// P9.4, example 2: if the peer alone is chosen, the operation ends at once. The objects have all sizes.
func TestBackupAlone(t *testing.T) {
	n := start(t, 0, 3)
	for i, size := range []int{0, 1, 8192, 77} {
		o := newObject(t, 1, 1, 3, string(bytes.Repeat([]byte{7}, size)))
		ticket, l := n.backup(o)
		if ticket != uint64(2*i+1) || len(l) != 0 {
			t.Error("Backup returns", ticket, l)
		}
		n.expectPending("Backup")
		n.expectResults("Backup", endOf(ticket, api.OpBackup, o, api.OK))
		ticket, l = n.restore(o)
		if ticket != uint64(2*i+2) || len(l) != 0 {
			t.Error("Restore returns", ticket, l)
		}
		n.expectPending("Restore")
		n.expectResults("Restore", endOf(ticket, api.OpRestore, o, api.OK))
	}
	if _, _, _, e := n.Backup(1, 2, nil); e != api.ErrLive {
		t.Error("for two peers Backup returns", e)
	}
}

// P9.4: the own piece counts as stored if it is held already, and is put again if it is damaged.
func TestBackupOfAHeldObject(t *testing.T) {
	n := start(t, 0, 3)
	o := newObject(t, 1, 1, 3, "object")
	n.hold(o)
	for range 2 {
		ticket, _ := n.backup(o)
		n.expectResults("again", endOf(ticket, api.OpBackup, o, api.OK))
		n.rot(o)
	}
	ticket, _ := n.restore(o)
	n.expectResults("damaged", endOf(ticket, api.OpRestore, o, api.ErrFew))
}

// P9.4: a backup ends at once if the own piece can not be put; then nothing is sent.
func TestBackupWithoutRoom(t *testing.T) {
	o := rankedObject(t, 1, 2, 3, 1, 1)
	p, e := startQuota(t, 1, 3, len(o.data)-1)
	expectCode(t, "Start", e, api.OK)
	for code, n := range map[api.Errno]node{api.ErrQuota: {p, t, 1, 3, nil}, api.ErrFull: startOn(t, newDisk(t, 5), 1, 3)} {
		n.greet()
		ticket, l := n.backup(o)
		expectMessages(t, "without room", l)
		n.expectPending("without room")
		n.expectResults("without room", endOf(ticket, api.OpBackup, o, code))
		n.expectRecords("without room", baseRecord(1, 1))
	}
	// Another one needs no room here.
	n := startOn(t, newDisk(t, 5), 1, 3)
	n.greet()
	o = rankedObject(t, 1, 2, 3, 1, 2)
	ticket, l := n.backup(o)
	expectMessages(t, "for others", l, about(api.KindInstall, 1, o, o.rank[:2]...)...)
	n.expectPending("for others", ticket)
}

// P9.4: the peer settles also when a backup has failed at once, as its put may have found damaged pieces.
func TestBackupSettles(t *testing.T) {
	n := startOn(t, newDisk(t, 26), 0, 2)
	a, b, long := newObject(t, 1, 1, 2, "a"), newObject(t, 1, 1, 2, "b"), newObject(t, 1, 1, 2, string(make([]byte, 1500)))
	n.hold(a, b)
	n.rot(a)
	ticket, _ := n.backup(long)
	n.expectResults("too long", endOf(ticket, api.OpBackup, long, api.ErrFull))
	n.expectHeld("too long", b)
	if r, _ := recordOf(n, a, 0); r.Held || r.Num != 3 {
		t.Error("the record of the damaged piece", r)
	}
}

// P9.5: the errors of Restore.
func TestRestoreErrors(t *testing.T) {
	n := startLive(t, 0, 2)
	held, known := newObject(t, 1, 1, 2, "held"), newObject(t, 1, 1, 2, "known")
	n.hold(held)
	n.learnHolders(known, 1)
	expectCode(t, "Delete", n.Delete(held.id), api.OK)
	n.learn(graveRecord(known.id))
	n = startAgain(n)
	for _, o := range []object{held, known} {
		if ticket, l, e := n.Restore(o.id); ticket != 0 || len(l) != 0 || e != api.ErrGone {
			t.Error("Restore returns", ticket, l, e)
		}
	}
	n.expectPending("errors")
	n.expectResults("errors")
	if ticket, _ := n.restore(newObject(t, 1, 1, 2, "other")); ticket != 1 {
		t.Error("the first ticket is", ticket)
	}
}

// P9.5: a restore asks the live holders, in ascending order, and ends as soon as it has enough pieces.
func TestRestore(t *testing.T) {
	const self = 3
	o := newObject(t, 3, 5, 7, "an object to be restored")
	n := start(t, self, 7)
	n.meet(table(7, 0, 2, 5, 6))
	n.learnHolders(o, 6, 4, 0, 5, 1)
	ticket, l := n.restore(o)
	expectMessages(t, "Restore", l, about(api.KindFetch, self, o, 0, 5, 6)...)
	n.expectPending("Restore", ticket)
	n.offer(5, o)
	n.offer(5, o)
	n.offer(2, o) // it was not asked, but why not
	n.expectResults("two pieces")
	n.offer(0, o)
	n.expectPending("three pieces")
	n.expectResults("three pieces", endOf(ticket, api.OpRestore, o, api.OK))
	n.expectHeld("three pieces")
	n.offer(6, o)
	n.expectResults("a late piece")
}

// P9.5: the own piece counts, unless it is damaged.
func TestRestoreWithTheOwnPiece(t *testing.T) {
	o := newObject(t, 2, 3, 3, "an object")
	n := startLive(t, 1, 3)
	n.hold(o)
	n.learnHolders(o, 0, 2)
	ticket, l := n.restore(o)
	expectMessages(t, "Restore", l, about(api.KindFetch, 1, o, 0, 2)...)
	n.offer(2, o)
	n.expectResults("one piece more", endOf(ticket, api.OpRestore, o, api.OK))
	n.rot(o)
	ticket, l = n.restore(o)
	expectMessages(t, "damaged", l, about(api.KindFetch, 1, o, 0, 2)...)
	n.expectHeld("damaged")
	if r, _ := recordOf(n, o, 1); r.Held {
		t.Error("the damage is not announced", r)
	}
	n.offer(2, o)
	n.expectPending("one piece alone", ticket)
	n.offer(0, o)
	n.expectResults("two pieces", endOf(ticket, api.OpRestore, o, api.OK))
	enough := newObject(t, 1, 2, 3, "one piece is enough")
	n.hold(enough)
	n.learnHolders(enough, 0)
	ticket, l = n.restore(enough)
	expectMessages(t, "one piece is enough", l)
	n.expectResults("one piece is enough", endOf(ticket, api.OpRestore, enough, api.OK))
	// An own piece that is offered twice counts once.
	n.hold(o)
	ticket, _ = n.restore(o)
	n.receive(api.Message{Kind: api.KindOffer, From: 0, Object: o.id, Manifest: o.m, Piece: o.pieces[1]})
	n.expectPending("the own piece from another one", ticket)
	n.say(api.KindLack, 2, o.id)
	n.expectResults("the own piece alone", endOf(ticket, api.OpRestore, o, api.ErrFew))
}

// P9.5: if nobody can be asked, a restore ends at once.
func TestRestoreFails(t *testing.T) {
	o := newObject(t, 2, 3, 3, "an object")
	n := start(t, 1, 3)
	n.hold(o)
	n.learnHolders(o, 0, 2)
	ticket, l := n.restore(o)
	expectMessages(t, "no other holder is live", l)
	n.expectPending("no other holder is live")
	n.expectResults("no other holder is live", endOf(ticket, api.OpRestore, o, api.ErrFew))
	ticket, _, e := n.Restore(api.Digest{3})
	expectCode(t, "unknown", e, api.OK)
	n.expectResults("unknown", endOf(ticket, api.OpRestore, object{id: api.Digest{3}}, api.ErrFew))
}

// P9.12: pieces that do not belong together are not taken for an object.
func TestRestoreOfAForgedObject(t *testing.T) {
	o := forgedObject(t, 2, 3, 3, "an object")
	n := startLive(t, 1, 3)
	n.learnHolders(o, 0, 2)
	ticket, _ := n.restore(o)
	n.offer(0, o)
	n.offer(2, o)
	n.expectResults("two pieces", endOf(ticket, api.OpRestore, o, api.ErrSum))
	one := forgedObject(t, 1, 1, 3, "an object")
	n.hold(one)
	ticket, _ = n.restore(one)
	n.expectResults("the own piece", endOf(ticket, api.OpRestore, one, api.ErrSum))
}

// P9.3, P9.5: one offer serves the build and several restores of an object, which end in the order of their tickets, but no other ones.
func TestOfferToSeveral(t *testing.T) {
	o, other := rankedObject(t, 2, 2, 4, 0, 0), rankedObject(t, 2, 2, 4, 0, 3)
	n := startLive(t, 0, 4)
	n.learnHolders(o, 1)
	n.learnHolders(other, 1, 2)
	n.tick()
	var want []api.Result
	for range 11 {
		ticket, _ := n.restore(o)
		want = append(want, endOf(ticket, api.OpRestore, o, api.OK))
	}
	rest, _ := n.restore(other)
	n.receive(api.Message{Kind: api.KindOffer, From: 3, Object: o.id, Manifest: o.m, Piece: o.pieces[2]})
	n.expectTasks("one piece", []object{o}, nil)
	late, _ := n.restore(o) // it does not get the piece that came before
	n.offer(1, o)
	n.expectTasks("two pieces", nil, nil)
	n.expectHeld("two pieces", o)
	n.expectResults("two pieces", append(want, endOf(late, api.OpRestore, o, api.ErrFew))...)
	n.expectPending("two pieces", rest)
}

// P9.6: the errors of Delete.
func TestDeleteErrors(t *testing.T) {
	o := newObject(t, 1, 1, 3, "object")
	n := startLive(t, 1, 3)
	expectCode(t, "unknown", n.Delete(o.id), api.ErrNone)
	n.learn(lostRecord(o, 0, 1, 1))
	expectCode(t, "not held", n.Delete(o.id), api.ErrNone)
	n.expectRecords("not held", baseRecord(1, 1), lostRecord(o, 0, 1, 1))
	n.learn(heldRecord(o, 2, 1, 1))
	expectCode(t, "held by another one", n.Delete(o.id), api.OK)
	n.expectRecords("deleted", baseRecord(1, 1), graveRecord(o.id))
	n.expectStatus("deleted", o, api.ObjectStatus{Buried: true})
	expectCode(t, "deleted already", n.Delete(o.id), api.OK)
	n = startAgain(n)
	expectCode(t, "deleted before", n.Delete(o.id), api.OK)
	n.expectRecords("deleted before", baseRecord(1, 2), graveRecord(o.id))
	small := startOn(t, newDisk(t, 4), 0, 2)
	small.learnHolders(o, 1)
	expectCode(t, "without room", small.Delete(o.id), api.ErrFull)
	small.expectRecords("without room", baseRecord(0, 1), heldRecord(o, 1, 1, 1))
	// The inventory alone has a grave: it could not be written.
	small.learn(graveRecord(o.id))
	expectCode(t, "a grave without room", small.Delete(o.id), api.ErrFull)
}

// P9.6, example 4: a deleted object is gone, with its tasks and operations.
func TestDelete(t *testing.T) {
	o, build, other := rankedObject(t, 1, 1, 3, 1, 1), rankedObject(t, 2, 2, 3, 1, 0), rankedObject(t, 2, 2, 3, 1, 1)
	n := startLive(t, 1, 3)
	n.hold(o)
	n.learnHolders(build, 0, 2)
	n.learnHolders(other, 0, 2)
	n.tick()
	n.expectTasks("before", []object{build, other}, []object{o})
	first, _ := n.backup(build)
	second, _ := n.restore(other)
	third, _ := n.restore(build)
	fourth, _ := n.backup(o)
	expectCode(t, "Delete", n.Delete(o.id), api.OK)
	n.expectTasks("one is deleted", []object{build, other}, nil)
	n.expectResults("one is deleted", endOf(fourth, api.OpBackup, o, api.ErrGone))
	expectCode(t, "Delete", n.Delete(build.id), api.OK)
	n.expectTasks("two are deleted", []object{other}, nil)
	n.expectResults("two are deleted", endOf(first, api.OpBackup, build, api.ErrGone), endOf(third, api.OpRestore, build, api.ErrGone))
	n.expectPending("two are deleted", second)
	n.expectHeld("two are deleted")
	expectCode(t, "an install", n.install(o), api.ErrGone)
	if _, _, e := n.Restore(o.id); e != api.ErrGone {
		t.Error("Restore returns", e)
	}
	if _, _, _, e := n.Backup(1, 1, []byte(o.data)); e != api.ErrGone {
		t.Error("Backup returns", e)
	}
	n.offer(0, build)
	n.offer(2, build)
	n.expectHeld("offers of a deleted object")
	n = startAgain(n)
	n.expectRecords("again", baseRecord(1, 2), graveRecord(o.id), graveRecord(build.id))
}

// P9.7: a peer that leaves tells the live ones; everything ends, and it does nothing any more.
func TestLeave(t *testing.T) {
	o, build, shed := newObject(t, 2, 4, 4, "object"), rankedObject(t, 2, 2, 4, 1, 0), rankedObject(t, 1, 1, 4, 1, 1)
	n := start(t, 1, 4)
	n.meet(table(4, 0, 1, 2, 3))
	n.hold(shed)
	n.learnHolders(build, 3)
	n.tick()
	n.expectTasks("before", []object{build}, []object{shed})
	var want []api.Result
	for range 11 {
		first, _ := n.backup(o)
		second, _ := n.restore(build)
		want = append(want, endOf(first, api.OpBackup, o, api.ErrState), endOf(second, api.OpRestore, build, api.ErrState))
	}
	l := n.Table()
	l[2].Status = api.Left
	n.meet(l)
	l[1].Status = api.Left
	messages, e := n.Leave()
	expectCode(t, "Leave", e, api.OK)
	expectMessages(t, "Leave", messages, api.Message{Kind: api.KindAck, From: 1, To: 0, Origin: 0, Table: l}, api.Message{Kind: api.KindAck, From: 1, To: 3, Origin: 3, Table: l})
	n.expectTasks("left", nil, nil)
	n.expectPending("left")
	records, held := n.Records(), n.Held()
	expectRefusal(t, "left", n.Peer, api.ErrState)
	if n.Running() || n.Incarnation() != 1 || !slices.Equal(n.Table(), l) || !slices.Equal(n.Records(), records) || !slices.Equal(n.Held(), held) {
		t.Error("after Leave", n.Running(), n.Incarnation(), n.Table(), n.Records())
	}
	n.expectHeld("left", o, shed)
	n.expectStatus("left", shed, api.ObjectStatus{Held: true, K: 1, N: 1, Holders: []int{1}})
	if _, blocks, e := n.Where(shed.id); blocks < 1 || e != api.OK {
		t.Error("Where", blocks, e)
	}
	n.expectResults("left", want...)
	n.disk.PowerOff()
	expectRefusal(t, "left and down", n.Peer, api.ErrDown)
	expectNothing(t, "left and down", n.Peer)
}

// expectRefusal checks that the calls of a peer return a code and nothing else.
func expectRefusal(t *testing.T, name string, p *peer.Peer, want api.Errno) {
	t.Helper()
	if l, e := p.Tick(1); len(l) != 0 || e != want {
		t.Error(name, "Tick", l, e)
	}
	for _, msg := range []api.Message{{}, {Kind: api.KindAsk, From: 0, To: 1}, {Kind: api.KindPing, From: 0, To: 1, Table: table(4, 0)}} {
		if l, e := p.Receive(msg); len(l) != 0 || e != want {
			t.Error(name, "Receive", l, e)
		}
	}
	for _, k := range []int{0, 1} {
		if ticket, id, l, e := p.Backup(k, 1, []byte("data")); ticket != 0 || id != (api.Digest{}) || len(l) != 0 || e != want {
			t.Error(name, "Backup", ticket, id, l, e)
		}
	}
	if ticket, l, e := p.Restore(api.Digest{}); ticket != 0 || len(l) != 0 || e != want {
		t.Error(name, "Restore", ticket, l, e)
	}
	if e := p.Delete(api.Digest{}); e != want {
		t.Error(name, "Delete", e)
	}
	if l, e := p.Leave(); len(l) != 0 || e != want {
		t.Error(name, "Leave", l, e)
	}
}

// P9.8: results come in the order in which the operations ended, once, and only restores that succeed have data.
func TestResults(t *testing.T) {
	o, mine := newObject(t, 1, 3, 3, "object"), newObject(t, 1, 1, 3, "mine")
	n := startLive(t, 0, 3)
	n.hold(mine)
	first, _ := n.backup(o)
	second, _ := n.restore(mine)
	third, _, _ := n.Restore(api.Digest{1})
	n.stored(1, o.id, api.OK)
	n.stored(2, o.id, api.OK)
	n.expectPending("all have ended")
	n.expectResults("all have ended", endOf(second, api.OpRestore, mine, api.OK),
		endOf(third, api.OpRestore, object{id: api.Digest{1}}, api.ErrFew), endOf(first, api.OpBackup, o, api.OK))
}

// R4: what a client gives and gets shares no memory with the peer's state.
func TestMemoryOfClients(t *testing.T) {
	o := newObject(t, 1, 3, 3, "object")
	n := startLive(t, 0, 3)
	data := []byte(o.data)
	_, _, l, _ := n.Backup(1, 3, data)
	if string(data) != o.data {
		t.Error("an argument has changed")
	}
	clear(data)
	want := []api.Message{wire.Clone(l[0]), wire.Clone(l[1])}
	clear(l[0].Manifest.Pieces)
	clear(l[0].Piece.Data)
	if !wire.Equal(l[1], want[1]) {
		t.Error("two results share memory")
	}
	clear(l[1].Manifest.Pieces)
	clear(l[1].Piece.Data)
	n.ticks(5)
	slices.SortFunc(want, func(a, b api.Message) int { return a.To - b.To })
	expectMessages(t, "sent again", tasksOnly(n.tick()), want...)
	n.restore(o)
	clear(n.result().Data)
	ticket, _ := n.restore(o)
	results := n.Results()
	if !sameResults(results, []api.Result{endOf(ticket, api.OpRestore, o, api.OK)}) {
		t.Error("the results are", results)
	}
	clear(results)
	n.restore(o)
	if r := n.result(); string(r.Data) != o.data {
		t.Error("the result is", r)
	}
}

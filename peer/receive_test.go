package peer_test

import (
	"bytes"
	"slices"
	"testing"

	"stolon/api"
	"stolon/digest"
	"stolon/inventory"
	"stolon/member"
	"stolon/wire"
)

// P9.3, R1, R2: messages that are refused change nothing.
func TestReceiveErrors(t *testing.T) {
	o := newObject(t, 1, 2, 3, "object")
	n := startLive(t, 1, 3)
	n.hold(o)
	n.tick()
	records, members, image := n.Records(), n.Table(), n.disk.Image()
	newer := table(3, 0, 1, 2)
	newer[0].Inc, newer[1].Inc = 9, 9
	manyRecords := slices.Repeat([]api.Record{graveRecord(o.id)}, 65)
	for _, c := range []struct {
		name string
		msg  api.Message
		want api.Errno
	}{
		{"no kind", api.Message{From: 0, To: 1}, api.ErrArg},
		{"an unknown kind", api.Message{Kind: 14, From: 0, To: 1}, api.ErrArg},
		{"from itself", api.Message{Kind: api.KindAsk, From: 1, To: 1, Object: o.id}, api.ErrArg},
		{"from nobody", api.Message{Kind: api.KindAsk, From: -1, To: 1, Object: o.id}, api.ErrArg},
		{"from outside of the swarm", api.Message{Kind: api.KindAsk, From: 3, To: 1, Object: o.id}, api.ErrArg},
		{"an offer from outside of the swarm", api.Message{Kind: api.KindOffer, From: 15, To: 1, Object: o.id, Manifest: o.m, Piece: o.pieces[2]}, api.ErrArg},
		{"to another one", api.Message{Kind: api.KindAsk, From: 0, To: 2, Object: o.id}, api.ErrArg},
		{"to another one, from it", api.Message{Kind: api.KindAsk, From: 2, To: 0, Object: o.id}, api.ErrArg},
		{"a field too much", api.Message{Kind: api.KindAsk, From: 0, To: 1, Object: o.id, Seq: 1}, api.ErrArg},
		{"a deletion with a field too much", api.Message{Kind: api.KindItems, From: 0, To: 1, Count: 1, Records: []api.Record{graveRecord(o.id)}}, api.ErrArg},
		{"an install without a manifest", api.Message{Kind: api.KindInstall, From: 0, To: 1, Object: o.id, Piece: o.pieces[1]}, api.ErrArg},
		{"a code out of range", api.Message{Kind: api.KindStored, From: 0, To: 1, Object: o.id, Code: 1000}, api.ErrArg},
		{"a short table", api.Message{Kind: api.KindPing, From: 0, To: 1, Origin: 0, Table: newer[:2]}, api.ErrArg},
		{"an origin outside of the swarm", api.Message{Kind: api.KindAck, From: 0, To: 1, Origin: 3, Table: newer}, api.ErrArg},
		{"a target outside of the swarm", api.Message{Kind: api.KindPingReq, From: 0, To: 1, Target: 3, Table: newer}, api.ErrArg},
		{"a ping to another one", api.Message{Kind: api.KindPing, From: 0, To: 2, Origin: 0, Table: newer}, api.ErrArg},
		{"too many records", api.Message{Kind: api.KindItems, From: 0, To: 1, Records: manyRecords}, api.ErrArg},
		{"a record that is not valid", api.Message{Kind: api.KindItems, From: 0, To: 1, Records: []api.Record{graveRecord(o.id), {}}}, api.ErrArg},
		{"a record outside of the range", api.Message{Kind: api.KindItems, From: 0, To: 1, High: []byte{2, 0}, Records: []api.Record{baseRecord(0, 7), graveRecord(o.id)}}, api.ErrArg},
	} {
		if l, e := n.Receive(c.msg); e != c.want || len(l) != 0 {
			t.Errorf("%s: Receive returns %v and %d instead of %d", c.name, l, e, c.want)
		}
		n.expectRecords(c.name, records...)
		if !slices.Equal(n.Table(), members) || !bytes.Equal(n.disk.Image(), image) || n.Incarnation() != 1 {
			t.Error(c.name, "changes something")
		}
	}
}

// P9.3: the messages of the membership are for the machine.
func TestReceiveMembership(t *testing.T) {
	n := start(t, 1, 4)
	machine, _ := member.New(1, 4, 1)
	n.tick()
	machine.Tick(0)
	for _, msg := range []api.Message{
		{Kind: api.KindPing, From: 0, To: 1, Seq: 7, Origin: 0, Table: table(4, 0, 2)},
		{Kind: api.KindPing, From: 3, To: 1, Seq: 8, Origin: 0, Table: table(4, 0, 3)},
		{Kind: api.KindPingReq, From: 3, To: 1, Seq: 9, Target: 2, Table: table(4, 0, 3)},
		{Kind: api.KindPingReq, From: 3, To: 1, Seq: 9, Target: 1, Table: table(4, 0, 3)},
		{Kind: api.KindAck, From: 2, To: 1, Seq: 1, Origin: 3, Table: table(4, 0, 3)},
		{Kind: api.KindAck, From: 2, To: 1, Seq: 1, Origin: 1, Table: table(4, 0, 3)},
	} {
		want, e := machine.Receive(msg)
		expectCode(t, "the machine", e, api.OK)
		expectMessages(t, "Receive", n.receive(msg), want...)
		if !slices.Equal(n.Table(), machine.Table()) {
			t.Error("the table is", n.Table())
		}
	}
}

// P9.3: the messages of the reconciliation are for the inventory.
func TestReceiveRecords(t *testing.T) {
	o := newObject(t, 1, 2, 3, "object")
	n := start(t, 1, 3)
	v := inventory.New()
	v.Merge(n.Records())
	other := inventory.New()
	other.Merge([]api.Record{baseRecord(0, 3), heldRecord(o, 0, 3, 2), graveRecord(api.Digest{5})})
	sum := other.Summary(nil, nil)
	sum.From, sum.To = 2, 1
	for _, msg := range []api.Message{
		sum,
		{Kind: api.KindItems, From: 0, To: 1, Want: true, Records: other.Records()[1:]},
		{Kind: api.KindItems, From: 0, To: 1, Low: []byte{1}, High: []byte{2}, Want: true, Records: other.Records()[:1]},
		{Kind: api.KindItems, From: 0, To: 1, Want: true},
		{Kind: api.KindItems, From: 0, To: 1},
	} {
		want, e := v.Reply(msg)
		expectCode(t, "the inventory", e, api.OK)
		expectMessages(t, "Receive", n.receive(msg), want...)
		n.expectRecords("Receive", v.Records()...)
	}
	n.expectStatus("known", o, api.ObjectStatus{K: 1, N: 2, Holders: []int{0}})
}

// P9.3: a fetch is answered with the own piece, or with a lack.
func TestFetch(t *testing.T) {
	o, other := newObject(t, 2, 3, 4, "an object"), newObject(t, 1, 1, 4, "another one")
	n := startLive(t, 2, 4)
	n.hold(o)
	n.learnHolders(other, 3)
	offer := api.Message{Kind: api.KindOffer, From: 2, To: 3, Object: o.id, Manifest: o.m, Piece: o.pieces[2]}
	expectMessages(t, "held", n.say(api.KindFetch, 3, o.id), offer)
	expectMessages(t, "held by another one", n.say(api.KindFetch, 0, other.id), about(api.KindLack, 2, other, 0)...)
	expectMessages(t, "unknown", n.say(api.KindFetch, 0, api.Digest{7}), about(api.KindLack, 2, object{id: api.Digest{7}}, 0)...)
	n.rot(o)
	n.expectHeld("damaged", o)
	expectMessages(t, "damaged", n.say(api.KindFetch, 3, o.id), about(api.KindLack, 2, o, 3)...)
	n.expectHeld("found damaged")
	n.expectRecords("found damaged", baseRecord(2, 1), lostRecord(o, 2, 1, 2), heldRecord(other, 3, 1, 1))
	n.hold(other)
	expectCode(t, "Delete", n.Delete(other.id), api.OK)
	expectMessages(t, "deleted", n.say(api.KindFetch, 0, other.id), about(api.KindLack, 2, other, 0)...)
}

// P9.3: an ask is answered with a keep if the own piece can be read, otherwise not at all.
func TestAsk(t *testing.T) {
	o, other := newObject(t, 2, 3, 4, "an object"), newObject(t, 1, 1, 4, "another one")
	n := startLive(t, 2, 4)
	n.hold(o)
	n.learnHolders(other, 3)
	expectMessages(t, "held", n.say(api.KindAsk, 3, o.id), about(api.KindKeep, 2, o, 3)...)
	expectMessages(t, "held by another one", n.say(api.KindAsk, 0, other.id))
	n.rot(o)
	expectMessages(t, "damaged", n.say(api.KindAsk, 3, o.id))
	n.expectHeld("found damaged")
	n.expectRecords("found damaged", baseRecord(2, 1), lostRecord(o, 2, 1, 2), heldRecord(other, 3, 1, 1))
}

// P9.3, example 3: the codes of installs.
func TestInstall(t *testing.T) {
	o, wide := newObject(t, 2, 2, 3, "an object"), newObject(t, 2, 2, 4, "an object")
	changed, short := o, o
	changed.pieces, short.pieces = slices.Clone(o.pieces), slices.Clone(o.pieces)
	changed.pieces[1].Data = []byte("other")
	short.pieces[1].Data = o.pieces[1].Data[1:]
	deleted := newObject(t, 1, 1, 3, "deleted")
	n := startLive(t, 1, 3)
	n.hold(deleted)
	expectCode(t, "Delete", n.Delete(deleted.id), api.OK)
	for _, c := range []struct {
		name  string
		o     object
		piece int
		id    api.Digest
		want  api.Errno
	}{
		{"another piece", o, 2, o.id, api.ErrArg},
		{"another piece and another id", o, 0, wide.id, api.ErrArg},
		{"another total", wide, 1, wide.id, api.ErrArg},
		{"another total and another id", wide, 1, o.id, api.ErrArg},
		{"another id", o, 1, wide.id, api.ErrSum},
		{"another id and a changed piece", short, 1, wide.id, api.ErrSum},
		{"a changed piece", changed, 1, o.id, api.ErrSum},
		{"a short piece", short, 1, o.id, api.ErrShape},
		{"deleted", deleted, 1, deleted.id, api.ErrGone},
		{"the piece", o, 1, o.id, api.OK},
		{"once more", o, 1, o.id, api.OK},
		{"held, but changed", changed, 1, o.id, api.ErrSum},
	} {
		msg := api.Message{Kind: api.KindInstall, From: 2, Object: c.id, Manifest: c.o.m, Piece: c.o.pieces[c.piece]}
		want := api.Message{Kind: api.KindStored, From: 1, To: 2, Object: c.id, Code: c.want}
		expectMessages(t, c.name, n.receive(msg), want)
		if held := n.Status(o.id).Held; held != (c.want == api.OK || c.name == "held, but changed") {
			t.Error(c.name, "held", held)
		}
	}
	n.expectHeld("in the end", o)
	n.expectRecords("in the end", baseRecord(1, 1), graveRecord(deleted.id), heldRecord(o, 1, 1, 3))
}

// P9.3: an install of a damaged piece that is still held puts it again.
func TestInstallOfADamagedPiece(t *testing.T) {
	o := newObject(t, 1, 1, 3, "object")
	n := startLive(t, 1, 3)
	n.hold(o)
	n.rot(o)
	n.expectHeld("damaged", o)
	expectCode(t, "again", n.install(o), api.OK)
	n.expectHeld("again", o)
	l := n.say(api.KindFetch, 0, o.id)
	if len(l) != 1 || l[0].Kind != api.KindOffer || !bytes.Equal(l[0].Piece.Data, o.pieces[1].Data) {
		t.Error("the piece can not be read", l)
	}
	// It was held all the time, as far as others know.
	n.expectRecords("again", baseRecord(1, 1), heldRecord(o, 1, 1, 1))
}

// P9.3: an install that the store refuses.
func TestInstallWithoutRoom(t *testing.T) {
	a, b := newObject(t, 1, 1, 2, "1234567"), newObject(t, 1, 1, 2, "12345678")
	p, e := startQuota(t, 1, 2, 14)
	expectCode(t, "Start", e, api.OK)
	n := node{p, t, 1, 2, nil}
	expectCode(t, "above the quota", n.install(newObject(t, 1, 1, 2, "123456789012345")), api.ErrQuota)
	expectCode(t, "the first one", n.install(a), api.OK)
	expectCode(t, "the second one", n.install(b), api.ErrQuota)
	n.expectHeld("with a quota", a)
	small := startOn(t, newDisk(t, 10), 1, 2)
	expectCode(t, "the first one", small.install(a), api.OK)
	expectCode(t, "the second one", small.install(b), api.ErrFull)
	small.expectHeld("on a small disk", a)
}

// P9.3, P9.10: a build puts the own piece as soon as the Gather is ready.
func TestOfferToABuild(t *testing.T) {
	o := rankedObject(t, 3, 3, 6, 5, 1)
	n := startLive(t, 5, 6)
	n.learnHolders(o, 0, 1, 2, 3)
	n.tick()
	expectMessages(t, "an offer", n.offer(1, o))
	n.offer(1, o)
	n.expectTasks("one piece, twice", []object{o}, nil)
	// Who offers a piece need not be its holder, nor one of those who were asked.
	n.receive(api.Message{Kind: api.KindOffer, From: 4, Object: o.id, Manifest: o.m, Piece: o.pieces[2]})
	n.expectTasks("two pieces", []object{o}, nil)
	n.offer(0, o)
	n.expectTasks("three pieces", nil, nil)
	n.expectHeld("three pieces", o)
	if r, _ := recordOf(n, o, 5); r != heldRecord(o, 5, 1, 1) {
		t.Error("the record", r)
	}
	l := n.say(api.KindFetch, 0, o.id)
	if len(l) != 1 || l[0].Piece.Index != 5 || !bytes.Equal(l[0].Piece.Data, o.pieces[5].Data) {
		t.Error("the built piece", l)
	}
	n.offer(3, o)
	n.expectHeld("a late offer", o)
}

// P9.3: without a build, offers have no effect.
func TestOfferToNobody(t *testing.T) {
	o := newObject(t, 1, 1, 3, "object")
	n := startLive(t, 1, 3)
	n.learnHolders(o, 0)
	expectMessages(t, "an offer", n.offer(0, o))
	expectMessages(t, "a lack", n.say(api.KindLack, 0, o.id))
	n.expectHeld("an offer")
	n.expectResults("an offer")
}

// P9.3: offers that do not fit are ignored, but are answers.
func TestOffersThatDoNotFit(t *testing.T) {
	o, wide := rankedObject(t, 1, 3, 4, 3, 0), newObject(t, 1, 3, 5, "wide")
	changed := o
	changed.pieces = slices.Clone(o.pieces)
	changed.pieces[1].Data = []byte("other")
	other := newObject(t, 1, 1, 4, "other")
	other.id = o.id
	strange := wide
	strange.id = o.id
	for name, x := range map[string]object{"a changed piece": changed, "another manifest": other, "another manifest of another total": strange} {
		n := startLive(t, 3, 4)
		n.learnHolders(o, 0, 1, 2)
		n.tick()
		ticket, _ := n.restore(o)
		n.offer(1, x)
		n.expectTasks(name, []object{o}, nil)
		n.expectPending(name, ticket)
		n.say(api.KindLack, 0, o.id)
		n.say(api.KindLack, 0, o.id)
		n.expectTasks(name, []object{o}, nil)
		n.expectPending(name, ticket)
		n.say(api.KindLack, 2, o.id)
		n.expectTasks(name, nil, nil)
		n.expectHeld(name)
		n.expectResults(name, endOf(ticket, api.OpRestore, o, api.ErrFew))
	}
}

// P9.3, P9.10: an object of a swarm of another size is neither built nor restored.
func TestOfferOfAnotherTotal(t *testing.T) {
	for _, total := range []int{3, 5} {
		o := newObject(t, 1, 3, total, "object")
		n := startLive(t, 2, 4)
		n.learnHolders(o, 0, 1)
		n.tick()
		ticket, _ := n.restore(o)
		expectMessages(t, "an offer", n.offer(0, o))
		n.expectPending("an offer", ticket)
		n.offer(1, o)
		n.expectHeld("offers")
		n.expectTasks("offers", nil, nil)
		n.expectResults("offers", endOf(ticket, api.OpRestore, o, api.ErrFew))
	}
}

// P9.3: a build ends when all who were asked have answered, and not earlier.
func TestBuildFails(t *testing.T) {
	o := rankedObject(t, 3, 3, 5, 4, 0)
	n := startLive(t, 4, 5)
	n.learnHolders(o, 0, 1, 3)
	n.tick()
	n.say(api.KindLack, 2, o.id) // it was not asked
	n.offer(3, o)
	n.say(api.KindLack, 0, o.id)
	n.say(api.KindLack, 0, newObject(t, 1, 1, 5, "another one").id)
	n.expectTasks("two have answered", []object{o}, nil)
	n.offer(1, o)
	n.expectTasks("all have answered", nil, nil)
	n.expectHeld("two pieces are too few")
}

// P9.3, P9.10: pieces that do not belong together do not become a piece.
func TestBuildOfAForgedObject(t *testing.T) {
	o := forgedObject(t, 2, 4, 4, "forged")
	n := startLive(t, 3, 4)
	n.learnHolders(o, 0, 1, 2)
	n.tick()
	n.offer(0, o)
	n.expectTasks("one piece", []object{o}, nil)
	n.offer(1, o)
	n.expectTasks("two pieces", nil, nil)
	n.expectHeld("two pieces")
}

// P9.3: a build whose piece the store refuses ends all the same.
func TestBuildWithoutRoom(t *testing.T) {
	p, e := startQuota(t, 0, 2, 3)
	expectCode(t, "Start", e, api.OK)
	n := node{p, t, 0, 2, nil}
	n.greet()
	o := newObject(t, 1, 2, 2, "1234")
	n.learnHolders(o, 1)
	n.tick()
	n.expectTasks("begun", []object{o}, nil)
	expectMessages(t, "an offer", n.offer(1, o))
	n.expectTasks("an offer", nil, nil)
	n.expectHeld("an offer")
}

// P9.3: what a stored means for backups.
func TestStored(t *testing.T) {
	o, other := newObject(t, 1, 4, 4, "object"), newObject(t, 1, 4, 4, "other")
	n := startLive(t, 2, 4)
	first, _ := n.backup(o)
	second, _ := n.backup(other)
	expectMessages(t, "stored", n.receive(api.Message{Kind: api.KindStored, From: 0, Object: o.id}))
	third, _ := n.backup(o)
	n.stored(0, o.id, api.ErrFull) // the first one has its answer already
	n.expectPending("one has failed", first, second)
	n.expectResults("one has failed", endOf(third, api.OpBackup, o, api.ErrFull))
	n.stored(1, o.id, api.OK)
	n.stored(1, o.id, api.OK)
	n.stored(0, o.id, api.OK)
	n.stored(3, api.Digest{1}, api.OK)
	n.expectPending("two have answered", first, second)
	n.stored(3, o.id, api.OK)
	n.expectPending("all have answered", second)
	n.expectResults("all have answered", endOf(first, api.OpBackup, o, api.OK))
	for _, from := range []int{3, 1, 0} {
		n.stored(from, other.id, api.OK)
	}
	n.expectResults("all have answered", endOf(second, api.OpBackup, other, api.OK))
	n.stored(0, other.id, api.ErrQuota)
	n.expectResults("a late answer")
}

// P9.3: one stored ends several backups, in the order of their tickets, with its code, whatever it is.
func TestStoredEndsAll(t *testing.T) {
	o := newObject(t, 1, 2, 2, "object")
	for _, code := range []api.Errno{api.OK, api.ErrArg, api.ErrGone, 777, 999} {
		n := startLive(t, 0, 2)
		var want []api.Result
		for range 12 {
			ticket, _ := n.backup(o)
			want = append(want, endOf(ticket, api.OpBackup, o, code))
		}
		n.stored(1, o.id, code)
		n.expectResults("all end", want...)
		n.expectPending("all end")
	}
}

// P9.3: a stored is no answer to a restore, nor an offer or a lack one to a backup.
func TestAnswersOfOtherKinds(t *testing.T) {
	o := newObject(t, 1, 2, 2, "object")
	n := startLive(t, 0, 2)
	ticket, _ := n.backup(o)
	n.offer(1, o)
	n.say(api.KindLack, 1, o.id)
	n.expectPending("a backup", ticket)
	n.stored(1, o.id, api.OK)
	n.expectResults("a backup", endOf(ticket, api.OpBackup, o, api.OK))
	other := newObject(t, 1, 1, 2, "held by another one")
	n.learnHolders(other, 1)
	ticket, _ = n.restore(other)
	n.stored(1, other.id, api.OK)
	n.stored(1, other.id, api.ErrFull)
	n.expectPending("a restore", ticket)
	n.offer(1, other)
	n.expectResults("a restore", endOf(ticket, api.OpRestore, other, api.OK))
}

// P9.3, P9.11: when a keep leads to a drop.
func TestKeep(t *testing.T) {
	const self = 4
	o := rankedObject(t, 1, 2, 6, self, 3)
	n := startLive(t, self, 6)
	n.hold(o)
	for _, i := range o.rank[:3] {
		n.say(api.KindKeep, i, o.id) // too early
	}
	n.tick()
	n.expectTasks("begun", nil, []object{o})
	expectMessages(t, "a keep", n.say(api.KindKeep, o.rank[1], o.id))
	for _, i := range []int{1, 4, 5, 1} {
		n.say(api.KindKeep, o.rank[i], o.id)
		n.expectHeld("one better peer", o)
	}
	n.say(api.KindKeep, o.rank[0], newObject(t, 1, 1, 6, "another one").id)
	n.expectHeld("a keep of another object", o)
	// The third one was not asked, but is as good.
	n.say(api.KindKeep, o.rank[2], o.id)
	n.expectHeld("two better peers")
	n.expectTasks("two better peers", nil, nil)
	n.expectRecords("two better peers", baseRecord(self, 1), lostRecord(o, self, 1, 2))
	if l := startAgain(n).Held(); len(l) != 0 {
		t.Error("the drop was not written", l)
	}
}

// P9.11: the keeps of an earlier shed do not count.
func TestKeepsOfAnEarlierShed(t *testing.T) {
	o := rankedObject(t, 1, 2, 3, 0, 2)
	n := startLive(t, 0, 3)
	n.hold(o)
	n.tick()
	n.say(api.KindKeep, o.rank[0], o.id)
	n.ticks(7)
	n.say(api.KindKeep, o.rank[0], o.id)
	n.tick()
	n.say(api.KindKeep, o.rank[1], o.id)
	n.expectHeld("one keep for each shed", o)
	n.say(api.KindKeep, o.rank[0], o.id)
	n.expectHeld("two keeps")
}

// P9.3: a shed of a piece that is damaged meanwhile ends, and there is nothing to drop.
func TestKeepOfADamagedPiece(t *testing.T) {
	o := rankedObject(t, 1, 1, 3, 0, 2)
	n := startLive(t, 0, 3)
	n.hold(o)
	n.tick()
	n.rot(o)
	n.say(api.KindAsk, 1, o.id)
	n.expectRecords("damaged", baseRecord(0, 1), lostRecord(o, 0, 1, 2))
	n.say(api.KindKeep, o.rank[0], o.id)
	n.expectTasks("a keep", nil, nil)
	n.expectRecords("a keep", baseRecord(0, 1), lostRecord(o, 0, 1, 2))
}

// R4: what a peer receives and returns shares no memory with its state.
func TestMemoryOfReceive(t *testing.T) {
	o := rankedObject(t, 2, 3, 3, 0, 0)
	n := startLive(t, 0, 3)
	n.learnHolders(o, 1, 2)
	n.tick()
	ticket, _ := n.restore(o)
	msg := wire.Clone(api.Message{Kind: api.KindOffer, From: 1, To: 0, Object: o.id, Manifest: o.m, Piece: o.pieces[1]})
	kept := wire.Clone(msg)
	n.receive(msg)
	if !wire.Equal(msg, kept) {
		t.Error("an argument has changed")
	}
	clear(msg.Piece.Data)
	clear(msg.Manifest.Pieces)
	n.offer(2, o)
	n.expectHeld("built", o)
	n.expectResults("restored", endOf(ticket, api.OpRestore, o, api.OK))
	l := n.say(api.KindFetch, 1, o.id)
	clear(l[0].Piece.Data)
	clear(l[0].Manifest.Pieces)
	if l = n.say(api.KindFetch, 1, o.id); !bytes.Equal(l[0].Piece.Data, o.pieces[0].Data) || digest.CheckPiece(l[0].Manifest, l[0].Piece) != api.OK {
		t.Error("a result is in the peer's memory")
	}
}

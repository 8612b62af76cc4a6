package peer_test

import (
	"bytes"
	"math"
	"slices"
	"testing"

	"stolon/api"
)

// sorted returns objects in the order of their ids.
func sorted(list ...object) []object {
	slices.SortFunc(list, func(a, b object) int { return bytes.Compare(a.id[:], b.id[:]) })
	return list
}

// expectBorn checks the incarnation of the peer, in the store, in its table and as its base.
func (n node) expectBorn(name string, inc uint64) {
	n.t.Helper()
	base := n.Records()[slices.IndexFunc(n.Records(), func(r api.Record) bool { return r.Kind == api.RecordBase && r.Holder == n.self })]
	if n.Incarnation() != inc || n.Table()[n.self] != (api.Member{Inc: inc, Status: api.Alive}) || base != baseRecord(n.self, inc) {
		n.t.Errorf("%s: the incarnation is %d, the entry %v, the base %v instead of %d", name, n.Incarnation(), n.Table()[n.self], base, inc)
	}
}

// Settling, step 1: graves that are heard of are buried; what concerns their objects ends, in the order of the tickets.
func TestGraves(t *testing.T) {
	a, b, c, d := newObject(t, 1, 1, 3, "a"), newObject(t, 2, 2, 3, "b"), rankedObject(t, 1, 2, 3, 1, 2), newObject(t, 2, 3, 3, "d")
	n := startLive(t, 1, 3)
	n.hold(a, d)
	n.learnHolders(b, 0)
	n.learnHolders(c, 2)
	var want []api.Result
	for range 6 {
		first, _ := n.restore(c)
		second, _ := n.backup(c)
		want = append(want, endOf(first, api.OpRestore, c, api.ErrGone), endOf(second, api.OpBackup, c, api.ErrGone))
	}
	kept, _ := n.restore(b)
	n.learn(graveRecord(c.id), graveRecord(a.id), graveRecord(api.Digest{0xff}))
	n.expectHeld("two are deleted", d)
	n.expectPending("two are deleted", kept)
	n.expectResults("two are deleted", want...)
	graves := []api.Record{graveRecord(c.id), graveRecord(a.id), graveRecord(api.Digest{0xff})}
	n.expectRecords("two are deleted", append(graves, baseRecord(1, 1), heldRecord(b, 0, 1, 1), heldRecord(d, 1, 1, 2))...)
	// That the piece of a is not held any more was a record, too, which is void.
	n.hold(b)
	n.expectRecords("one more is held", append(graves, baseRecord(1, 1), heldRecord(b, 0, 1, 1), heldRecord(b, 1, 1, 4), heldRecord(d, 1, 1, 2))...)
	n = startAgain(n)
	n.expectHeld("again", b, d)
	n.expectStatus("again", a, api.ObjectStatus{Buried: true})
	n.expectStatus("again", object{id: api.Digest{0xff}}, api.ObjectStatus{Buried: true})
}

// Settling, step 1: a grave that can not be written is obeyed as far as possible, and written as soon as there is room.
func TestGraveWithoutRoom(t *testing.T) {
	held, strange := newObject(t, 1, 1, 2, "x"), newObject(t, 1, 1, 2, "y")
	n := startOn(t, newDisk(t, 8), 0, 2)
	n.greet()
	n.hold(held)
	n.learnHolders(strange, 1)
	ticket, _ := n.restore(strange)
	n.learn(graveRecord(strange.id))
	n.expectResults("without room", endOf(ticket, api.OpRestore, strange, api.ErrGone))
	n.expectStatus("without room", strange, api.ObjectStatus{Buried: true})
	if again := startOn(t, copyDisk(t, n.disk), 0, 2); again.Status(strange.id).Buried {
		t.Fatal("there was room")
	}
	n.rot(held)
	n.say(api.KindAsk, 1, held.id)
	n.expectHeld("room is made")
	again := startOn(t, copyDisk(t, n.disk), 0, 2)
	again.expectRecords("with room", baseRecord(0, 2), graveRecord(strange.id))
}

// Settling, step 1: the graves are buried in ascending order, as far as there is room.
func TestOrderOfGraves(t *testing.T) {
	n := startOn(t, newDisk(t, 8), 0, 2) // with room for the incarnation and two graves
	n.learn(graveRecord(api.Digest{3}), graveRecord(api.Digest{9}), graveRecord(api.Digest{1}), graveRecord(api.Digest{2}))
	n = startAgain(n)
	n.expectRecords("again", baseRecord(0, 2), graveRecord(api.Digest{1}), graveRecord(api.Digest{2}))
}

// Settling, step 2: a claim of the table is refuted; the records are made anew.
func TestChallengeOfTheTable(t *testing.T) {
	list := sorted(newObject(t, 1, 1, 3, "a"), newObject(t, 1, 2, 3, "b"), newObject(t, 1, 2, 3, "c"))
	for _, c := range []struct {
		entry api.Member
		inc   uint64
	}{
		{api.Member{Inc: 1, Status: api.Alive}, 1},
		{api.Member{Inc: 1, Status: api.Suspect}, 2},
		{api.Member{Inc: 1, Status: api.Left}, 2},
		{api.Member{Inc: 6, Status: api.Alive}, 7},
		{api.Member{Inc: math.MaxUint64 - 1, Status: api.Dead}, math.MaxUint64},
	} {
		n := startLive(t, 2, 3)
		n.hold(list[1], list[2])
		n.hold(list[0])
		n.rot(list[1])
		n.say(api.KindAsk, 0, list[1].id)
		n.expectRecords("before", baseRecord(2, 1), heldRecord(list[0], 2, 1, 3), lostRecord(list[1], 2, 1, 4), heldRecord(list[2], 2, 1, 2))
		l := table(3, 0, 1)
		l[2] = c.entry
		n.meet(l)
		n.expectBorn("a claim", c.inc)
		if c.inc > 1 {
			n.expectRecords("a claim", baseRecord(2, c.inc), heldRecord(list[0], 2, c.inc, 1), heldRecord(list[2], 2, c.inc, 2))
		}
		if c.inc < math.MaxUint64 {
			n.disk.PowerOff()
			n.disk.PowerOn()
			n = startOn(t, n.disk, 2, 3)
			n.expectBorn("again", c.inc+1)
		}
	}
}

// Settling, step 3: a damaged piece is found when the records are made anew; it gets none, and is not held any more.
func TestDamageFoundByAnAnnouncement(t *testing.T) {
	list := sorted(newObject(t, 1, 1, 3, "a"), newObject(t, 1, 2, 3, "b"), newObject(t, 1, 2, 3, "c"))
	n := startLive(t, 2, 3)
	n.hold(list...)
	n.rot(list[1])
	n.expectHeld("damaged", list...)
	n.learn(baseRecord(2, 4))
	n.expectBorn("born again", 5)
	n.expectHeld("born again", list[0], list[2])
	n.expectRecords("born again", baseRecord(2, 5), heldRecord(list[0], 2, 5, 1), heldRecord(list[2], 2, 5, 2))
	n.hold(list[1])
	n.expectRecords("held again", baseRecord(2, 5), heldRecord(list[0], 2, 5, 1), heldRecord(list[1], 2, 5, 3), heldRecord(list[2], 2, 5, 2))
}

// Settling, step 2: a claim of the inventory is refuted: a base that is too new, or a piece record that the peer did not make.
func TestChallengeOfTheInventory(t *testing.T) {
	list := sorted(newObject(t, 1, 1, 3, "a"), newObject(t, 1, 2, 3, "b"), newObject(t, 1, 2, 3, "c"))
	a, b, c := list[0], list[1], list[2]
	other := heldRecord(a, 1, 1, 1)
	other.K, other.N = 1, 3
	for _, x := range []struct {
		name    string
		records []api.Record
		inc     uint64
	}{
		{"its base", []api.Record{baseRecord(1, 1)}, 1},
		{"its record", []api.Record{heldRecord(a, 1, 1, 1)}, 1},
		{"an older record", []api.Record{lostRecord(b, 1, 1, 1)}, 1},
		{"records of others", []api.Record{baseRecord(0, 9), heldRecord(c, 0, 9, 1), baseRecord(2, 7)}, 1},
		{"a newer base", []api.Record{baseRecord(1, 2)}, 3},
		{"a much newer base", []api.Record{baseRecord(1, 1000)}, 1001},
		{"a newer number", []api.Record{lostRecord(a, 1, 1, 2)}, 2},
		{"a newer number, held", []api.Record{heldRecord(a, 1, 1, 9)}, 2},
		{"another n", []api.Record{other}, 2},
		{"a newer incarnation", []api.Record{heldRecord(b, 1, 5, 1)}, 6},
		{"another object", []api.Record{heldRecord(c, 1, 1, 1)}, 2},
		{"another object that is not held", []api.Record{lostRecord(c, 1, 1, 1)}, 2},
		{"the greatest of all", []api.Record{heldRecord(c, 1, 4, 1), baseRecord(1, 3), lostRecord(b, 1, 8, 2), heldRecord(a, 1, 5, 1)}, 9},
		{"a base above the records", []api.Record{heldRecord(c, 1, 4, 1), baseRecord(1, 6)}, 7},
	} {
		n := startLive(t, 1, 3)
		n.hold(a, b)
		n.learn(x.records...)
		n.expectBorn(x.name, x.inc)
		for _, o := range []object{a, b} {
			num := uint64(1)
			if o.id == b.id {
				num = 2
			}
			if r, _ := recordOf(n, o, 1); r != heldRecord(o, 1, x.inc, num) {
				t.Error(x.name, r)
			}
		}
		if _, found := recordOf(n, c, 1); found {
			t.Error(x.name, "is not refuted")
		}
	}
}

// Settling, step 2: of several claims the greatest one counts.
func TestGreatestChallenge(t *testing.T) {
	o, other := newObject(t, 1, 1, 2, "object"), newObject(t, 1, 1, 2, "other")
	for _, c := range []struct{ member, base, piece, want uint64 }{
		{7, 5, 6, 8}, {7, 6, 5, 8}, {3, 6, 4, 7}, {3, 5, 9, 10}, {8, 9, 9, 10}, {1, 1, 1, 2},
	} {
		n := start(t, 0, 2)
		// As long as there is a claim that can not be refuted, the others wait.
		n.learn(heldRecord(o, 0, math.MaxUint64, 1))
		n.meet([]api.Member{{Inc: c.member, Status: api.Dead}, {Inc: 1, Status: api.Alive}})
		n.learn(baseRecord(0, c.base), heldRecord(other, 0, c.piece, 1))
		if n.Incarnation() != 1 {
			t.Error("the incarnation is already", n.Incarnation())
		}
		n.learn(graveRecord(o.id))
		n.expectBorn("claims", c.want)
		n.expectRecords("claims", baseRecord(0, c.want), graveRecord(o.id))
	}
}

// Settling, step 2: a claim with the last incarnation can not be refuted; all else goes on.
func TestChallengeWithoutAnswer(t *testing.T) {
	o, held := newObject(t, 1, 1, 2, "object"), newObject(t, 1, 2, 2, "held")
	n := startLive(t, 0, 2)
	n.learn(heldRecord(o, 0, math.MaxUint64, 1))
	n.expectRecords("a claim", baseRecord(0, 1), heldRecord(o, 0, math.MaxUint64, 1))
	n.hold(held)
	n.expectRecords("a held piece", baseRecord(0, 1), heldRecord(o, 0, math.MaxUint64, 1), heldRecord(held, 0, 1, 1))
	if n.Incarnation() != 1 || !n.Running() {
		t.Error(n.Incarnation())
	}
	n.learn(baseRecord(0, 12))
	n.expectRecords("another claim", baseRecord(0, 12), heldRecord(o, 0, math.MaxUint64, 1))
	n.learn(graveRecord(o.id))
	n.expectBorn("the claim is void", 13)
	n.expectRecords("the claim is void", baseRecord(0, 13), graveRecord(o.id), heldRecord(held, 0, 13, 1))
}

// Settling, step 3: the numbers of the records go on, whatever happens to the objects.
func TestAnnouncements(t *testing.T) {
	o, other := rankedObject(t, 1, 1, 2, 0, 1), newObject(t, 1, 2, 2, "other")
	n := startLive(t, 0, 2)
	n.hold(o)
	n.hold(o)
	n.expectRecords("held", baseRecord(0, 1), heldRecord(o, 0, 1, 1))
	drop := func() {
		n.tick()
		n.say(api.KindKeep, 1, o.id)
		n.expectHeld("dropped")
	}
	drop()
	n.expectRecords("dropped", baseRecord(0, 1), lostRecord(o, 0, 1, 2))
	n.tick()
	n.expectRecords("still dropped", baseRecord(0, 1), lostRecord(o, 0, 1, 2))
	n.hold(o)
	n.expectRecords("held again", baseRecord(0, 1), heldRecord(o, 0, 1, 3))
	drop()
	n.hold(other)
	n.expectRecords("another one is held", baseRecord(0, 1), lostRecord(o, 0, 1, 4), heldRecord(other, 0, 1, 5))
	n = startAgain(n)
	n.expectRecords("again", baseRecord(0, 2), heldRecord(other, 0, 2, 1))
}

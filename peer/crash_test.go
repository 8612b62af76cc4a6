package peer_test

import (
	"slices"
	"testing"

	"stolon/api"
)

// crash is a call that writes, and what a peer that starts again holds and has buried if it was made.
type crash struct {
	name   string
	call   func(n node) api.Errno
	held   []object
	graves []object
}

// received returns a call that receives a message.
func received(msg api.Message) func(n node) api.Errno {
	return func(n node) api.Errno {
		msg.To = n.self
		l, e := n.Receive(msg)
		if e != api.OK && len(l) != 0 {
			n.t.Error("with an error there are messages", l)
		}
		return e
	}
}

// crashObjects are objects of a swarm of three peers, for peer 1.
type crashObjects struct{ shed, build, mine, other object }

// crashNode returns a peer that holds one object which it may drop, and waits for the pieces of another one, with its operations.
func crashNode(t *testing.T, c crashObjects) node {
	t.Helper()
	n := startOn(t, newDisk(t, 100), 1, 3)
	n.greet()
	n.hold(c.shed)
	n.learnHolders(c.build, 0)
	n.tick()
	n.restore(c.build)
	n.expectTasks("before", []object{c.build}, []object{c.shed})
	return n
}

// P9.4, P9.6, T5: the power is lost at each write of a call. The call returns ErrDown and nothing else, the peer is down, and the call has had its whole effect or none.
func TestCrashes(t *testing.T) {
	c := crashObjects{
		shed: rankedObject(t, 1, 1, 3, 1, 1), build: rankedObject(t, 1, 1, 3, 1, 0),
		mine: rankedObject(t, 1, 2, 3, 1, 0), other: newObject(t, 2, 2, 3, "other"),
	}
	challenge := table(3, 0, 2)
	challenge[1] = api.Member{Inc: 5, Status: api.Dead}
	for _, x := range []crash{
		{"install", received(api.Message{Kind: api.KindInstall, From: 0, Object: c.other.id, Manifest: c.other.m, Piece: c.other.pieces[1]}), []object{c.shed, c.other}, nil},
		{"offer", received(api.Message{Kind: api.KindOffer, From: 0, Object: c.build.id, Manifest: c.build.m, Piece: c.build.pieces[0]}), []object{c.shed, c.build}, nil},
		{"keep", received(api.Message{Kind: api.KindKeep, From: c.shed.rank[0], Object: c.shed.id}), nil, nil},
		{"grave", received(api.Message{Kind: api.KindItems, From: 0, Want: true, Records: []api.Record{graveRecord(c.build.id)}}), []object{c.shed}, []object{c.build}},
		{"base", received(api.Message{Kind: api.KindItems, From: 0, Want: true, Records: []api.Record{baseRecord(1, 7)}}), []object{c.shed}, nil},
		{"ping", received(api.Message{Kind: api.KindPing, From: 0, Origin: 0, Table: challenge}), []object{c.shed}, nil},
		{"Backup", func(n node) api.Errno {
			ticket, id, l, e := n.Backup(1, 2, []byte(c.mine.data))
			if e != api.OK && (ticket != 0 || id != api.Digest{} || len(l) != 0) {
				t.Error("Backup returns", ticket, id, l)
			}
			return e
		}, []object{c.shed, c.mine}, nil},
		{"Delete", func(n node) api.Errno { return n.Delete(c.shed.id) }, nil, []object{c.shed}},
	} {
		writes := 0
		for crashAt(t, c, x, writes) {
			writes++
		}
		if writes == 0 {
			t.Error(x.name, "writes nothing")
		}
	}
}

// crashAt loses the power at one write of a call, after some numbers of bytes. It reports whether the call has that many writes.
func crashAt(t *testing.T, c crashObjects, x crash, after int) bool {
	t.Helper()
	for _, keep := range []int{0, 3, 40, 127, 128} {
		n := crashNode(t, c)
		expectCode(t, "Arm", n.disk.Arm(after, keep), api.OK)
		switch e := x.call(n); e {
		case api.OK:
			again := startAgain(n)
			if !slices.Equal(again.Held(), ids(x.held...)) || !again.hasBuried(x.graves) {
				t.Error(x.name, "had not its effect")
			}
			return false
		case api.ErrDown:
			expectRefusal(t, x.name, n.Peer, api.ErrDown)
			expectNothing(t, x.name, n.Peer)
			again := startAgain(n)
			whole := slices.Equal(again.Held(), ids(x.held...)) && again.hasBuried(x.graves)
			none := slices.Equal(again.Held(), ids(c.shed)) && again.hasBuried(nil)
			if !whole && !none || again.Incarnation() < 2 {
				t.Error(x.name, "after", after, "writes and", keep, "bytes:", again.Held(), again.Incarnation())
			}
		default:
			t.Fatal(x.name, "returns", e)
		}
	}
	return true
}

// hasBuried reports whether the peer knows just these graves.
func (n node) hasBuried(list []object) bool {
	var graves []api.Digest
	for _, r := range n.Records() {
		if r.Kind == api.RecordGrave {
			graves = append(graves, r.Object)
		}
	}
	return slices.Equal(graves, ids(list...))
}

// P9.2, P9.5: also a Tick and a Restore return ErrDown if the power is lost in them, as when a grave that had no room is written at last.
func TestCrashWhenThereIsRoom(t *testing.T) {
	held, deleted := newObject(t, 1, 1, 2, "x"), newObject(t, 1, 1, 2, "y")
	for name, call := range map[string]func(n node) api.Errno{
		"Tick": func(n node) api.Errno {
			l, e := n.Tick(0)
			if len(l) != 0 {
				t.Error("messages", l)
			}
			return e
		},
		"Restore": func(n node) api.Errno {
			ticket, l, e := n.Restore(held.id)
			if ticket != 0 || len(l) != 0 {
				t.Error("Restore returns", ticket, l)
			}
			return e
		},
	} {
		n := startOn(t, newDisk(t, 8), 0, 2)
		n.greet()
		n.hold(held)
		n.learn(graveRecord(deleted.id))
		n.rot(held)
		expectCode(t, "Arm", n.disk.Arm(0, 0), api.OK)
		expectCode(t, name, call(n), api.ErrDown)
		expectNothing(t, name, n.Peer)
	}
}

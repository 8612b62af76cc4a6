package swarm_test

import (
	"slices"
	"testing"

	"stolon/api"
	"stolon/swarm"
)

// P10.5, R3: a world that is nil.
func TestNil(t *testing.T) {
	var w *swarm.World
	for kind := range api.EventKind(20) {
		if w.Do(api.Event{Kind: kind}) {
			t.Error("an event applies", kind)
		}
	}
	if w.Settled() || w.Applied() != 0 || len(w.Network())+len(w.Running())+len(w.Objects())+len(w.Log())+len(w.Acknowledged())+len(w.Faulty()) != 0 {
		t.Error("a nil world is not empty")
	}
	expectNothing(t, w, 0)
}

// expectNothing checks that nothing is to be seen of a peer.
func expectNothing(t *testing.T, w *swarm.World, i int) {
	t.Helper()
	if len(w.Table(i))+len(w.Records(i))+len(w.Held(i)) != 0 || w.Incarnation(i) != 0 || !sameStatus(w.Status(i, api.Digest{}), api.ObjectStatus{}) {
		t.Error("something is to be seen of peer", i)
	}
}

// P10.5: what is to be seen of peers that are not there, or do not run.
func TestNoPeer(t *testing.T) {
	w := metWorld(t, 3)
	for _, i := range []int{-1, 3, 16, 1 << 40, -1 << 63} {
		expectNothing(t, w, i)
		if len(w.Image(i)) != 0 {
			t.Error("there is a disk", i)
		}
	}
	id := backup(t, w, 0, 1, 3, "data")
	rounds(t, w, 4)
	want := api.ObjectStatus{Held: true, K: 1, N: 3, Holders: []int{0, 1, 2}, Live: 3}
	if got := w.Status(1, id); !sameStatus(got, want) {
		t.Error("the status is", got)
	}
	do(t, w, api.Event{Kind: api.EvLeave, Peer: 1})
	if got := w.Status(1, id); !got.Held || len(w.Records(1)) == 0 || !slices.Equal(w.Held(1), []api.Digest{id}) {
		t.Error("of a peer that has left there is nothing to be seen", got)
	}
	do(t, w, api.Event{Kind: api.EvCrash, Peer: 2})
	expectNothing(t, w, 2)
	if got := w.Status(2, id); !sameStatus(got, api.ObjectStatus{}) || len(w.Image(2)) != 200*128 || isZero(w.Image(2)) {
		t.Error("the status of a peer without power is", got)
	}
	expectPeers(t, "running", w.Running(), 0)
}

// P10.5, R4: what is returned shares no memory with the world, nor do arguments.
func TestNoSharedMemory(t *testing.T) {
	w := metWorld(t, 3)
	data := []byte("some data")
	do(t, w, api.Event{Kind: api.EvBackup, Peer: 0, A: 2, B: 3, Data: data})
	id := w.Objects()[0]
	before := view(w)
	clear(data)
	if view(w) != before {
		t.Error("the data of an event is kept")
	}
	rounds(t, w, 4)
	do(t, w, api.Event{Kind: api.EvRestore, Peer: 1})
	rounds(t, w, 1)
	do(t, w, api.Event{Kind: api.EvRestore, Peer: 1})
	backup(t, w, 2, 1, 3, "more data")
	rounds(t, w, 1)
	do(t, w, api.Event{Kind: api.EvCrash, Peer: 0})
	do(t, w, api.Event{Kind: api.EvWipe, Peer: 0})
	do(t, w, api.Event{Kind: api.EvDelete, Peer: 1, A: 0})
	before = view(w)
	if len(w.Log()) < 3 || len(w.Acknowledged()) == 0 {
		t.Fatal("the world is poor", before)
	}
	for range 2 {
		spoil(w, id)
		if view(w) != before {
			t.Fatal("a result shares memory with the world")
		}
	}
}

// spoil writes into all that is returned about a world.
func spoil(w *swarm.World, id api.Digest) {
	for _, msg := range w.Network() {
		clear(msg.Table)
		clear(msg.Records)
		clear(msg.Low)
		clear(msg.High)
		clear(msg.Piece.Data)
		clear(msg.Manifest.Pieces)
	}
	clear(w.Network())
	clear(w.Running())
	clear(w.Faulty())
	clear(w.Objects())
	clear(w.Acknowledged())
	for _, x := range w.Log() {
		clear(x.Result.Data)
	}
	clear(w.Log())
	for i := range 3 {
		clear(w.Table(i))
		clear(w.Records(i))
		clear(w.Held(i))
		clear(w.Status(i, id).Holders)
		clear(w.Image(i))
	}
}

// P10.5: objects are in the order of their backups, also those that were acknowledged in another one.
func TestAcknowledged(t *testing.T) {
	w := metWorld(t, 2)
	loseAll(t, w)
	far, _ := rankedData(t, 1, 1, 2, 1)
	near, _ := rankedData(t, 1, 1, 2, 0)
	first := backup(t, w, 0, 1, 1, far)
	second := backup(t, w, 0, 1, 1, near)
	if l := w.Acknowledged(); !slices.Equal(l, []api.Digest{second}) {
		t.Error("acknowledged are", l)
	}
	do(t, w, api.Event{Kind: api.EvRestore, Peer: 0, A: 1})
	third := backup(t, w, 0, 2, 2, "abc")
	deliver(t, w, api.KindInstall, 0, 1)
	deliver(t, w, api.KindStored, 1, 0)
	if l := w.Acknowledged(); !slices.Equal(l, []api.Digest{first, second}) {
		t.Error("acknowledged are", l)
	}
	if l := w.Objects(); !slices.Equal(l, []api.Digest{first, second, third}) {
		t.Error("the objects are", l)
	}
	loseAll(t, w)
	for range 31 {
		do(t, w, api.Event{Kind: api.EvTick, Peer: 0})
	}
	expectOutcomes(t, w,
		api.Outcome{Result: api.Result{Ticket: 2, Kind: api.OpBackup, Object: second}},
		api.Outcome{Result: api.Result{Ticket: 3, Kind: api.OpRestore, Object: second, Data: []byte(near)}},
		api.Outcome{Result: api.Result{Ticket: 1, Kind: api.OpBackup, Object: first}},
		api.Outcome{Result: api.Result{Ticket: 4, Kind: api.OpBackup, Code: api.ErrTimeout, Object: third}},
	)
	if l := w.Acknowledged(); !slices.Equal(l, []api.Digest{first, second}) {
		t.Error("acknowledged are", l)
	}
	// A restore that has succeeded does not acknowledge an object.
	do(t, w, api.Event{Kind: api.EvBackup, Peer: 1, A: 1, B: 2, Data: []byte("def")})
	do(t, w, api.Event{Kind: api.EvRestore, Peer: 1, A: 3})
	expectOutcomes(t, w, api.Outcome{Peer: 1, Result: api.Result{Ticket: 2, Kind: api.OpRestore, Object: w.Objects()[3], Data: []byte("def")}})
	if l := w.Acknowledged(); !slices.Equal(l, []api.Digest{first, second}) {
		t.Error("acknowledged are", l)
	}
}

// P10.5: the number of events may be read while one happens.
func TestAppliedMeanwhile(t *testing.T) {
	w := newWorld(t, 3)
	const events = 2000
	done := make(chan bool)
	go func() {
		for i := range events {
			w.Do(api.Event{Kind: api.EvStart, Peer: i % 5}) // applies three times
			w.Do(api.Event{Kind: api.EvRound})
		}
		close(done)
	}()
	last := uint64(0)
	for running := true; running; {
		select {
		case <-done:
			running = false
		default:
		}
		n := w.Applied()
		if n < last {
			t.Fatal("the number decreases from", last, "to", n)
		}
		last = n
	}
	if last != events+3 {
		t.Error("the number of events is", last)
	}
}

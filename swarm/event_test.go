package swarm_test

import (
	"bytes"
	"math/big"
	"slices"
	"testing"

	"stolon/api"
	"stolon/swarm"
)

// P10.2: a new world.
func TestNew(t *testing.T) {
	for _, s := range invalidSetups() {
		if w, e := swarm.New(s); e != api.ErrArg || w != nil {
			t.Error("New returns", w, e, "for", s)
		}
	}
	for _, s := range []api.Setup{{Peers: 2, Blocks: 4}, {Peers: 16, Blocks: 4096, Quota: 1<<32 - 1}, {Peers: 5, Blocks: 77, Quota: 3}} {
		w, e := swarm.New(s)
		if e != api.OK {
			t.Fatal("New returns", e, "for", s)
		}
		for i := range s.Peers {
			if b := w.Image(i); len(b) != 128*s.Blocks || !isZero(b) {
				t.Error("the disk of", i, "has", len(b), "bytes")
			}
			if len(w.Table(i)) != 0 || len(w.Records(i)) != 0 || w.Incarnation(i) != 0 {
				t.Error("there is a peer", i)
			}
		}
		if len(w.Network()) != 0 || len(w.Running()) != 0 || len(w.Objects()) != 0 || len(w.Log()) != 0 || len(w.Faulty()) != 0 || w.Applied() != 0 {
			t.Error("a new world is not empty", s)
		}
	}
}

// P10.3: events of a kind that is not listed, or of no peer, do not apply.
func TestEventsOfNobody(t *testing.T) {
	w := metWorld(t, 3)
	backup(t, w, 0, 1, 3, "data")
	rounds(t, w, 5)
	for _, kind := range []api.EventKind{0, 15, 16, 99, 128, 255} {
		refuse(t, w, api.Event{Kind: kind, Draw: 1})
	}
	do(t, w, api.Event{Kind: api.EvCrash, Peer: 2})
	for _, i := range []int{-1, -3, 3, 4, 16, 255, 256, 1 << 40, -1 << 63} {
		for _, kind := range []api.EventKind{1, 5, 6, 7, 8, 9, 10, 11, 12, 13} {
			refuse(t, w, api.Event{Kind: kind, Peer: i, A: 1, B: 1, Draw: 1})
		}
		for _, kind := range []api.EventKind{api.EvCopy, api.EvDeliver, api.EvLose, api.EvRound} {
			do(t, w, api.Event{Kind: kind, Peer: i})
		}
	}
}

// P10.3: which events apply to a peer that runs, and which to one that does not.
func TestRunningAndNot(t *testing.T) {
	w := metWorld(t, 4)
	backup(t, w, 0, 1, 4, "data")
	rounds(t, w, 5)
	for _, kind := range []api.EventKind{api.EvStart, api.EvWipe} {
		refuse(t, w, api.Event{Kind: kind, Peer: 1})
	}
	do(t, w, api.Event{Kind: api.EvCrash, Peer: 1})
	do(t, w, api.Event{Kind: api.EvLeave, Peer: 2})
	do(t, w, api.Event{Kind: api.EvCrash, Peer: 3})
	do(t, w, api.Event{Kind: api.EvWipe, Peer: 3})
	expectPeers(t, "running", w.Running(), 0)
	for _, i := range []int{1, 2, 3} {
		for _, kind := range []api.EventKind{api.EvTick, api.EvBackup, api.EvRestore, api.EvDelete, api.EvCrash, api.EvArm, api.EvRot, api.EvLeave} {
			refuse(t, w, api.Event{Kind: kind, Peer: i, A: 1, B: 1, Draw: 1})
		}
	}
	for _, i := range []int{1, 2, 3} {
		do(t, w, api.Event{Kind: api.EvWipe, Peer: i})
		do(t, w, api.Event{Kind: api.EvStart, Peer: i})
	}
	expectPeers(t, "running", w.Running(), 0, 1, 2, 3)
}

// P10.3: a tick, and its draw.
func TestTick(t *testing.T) {
	w := newWorld(t, 2)
	do(t, w, api.Event{Kind: api.EvStart, Peer: 1})
	do(t, w, api.Event{Kind: api.EvTick, Peer: 1})
	do(t, w, api.Event{Kind: api.EvTick, Peer: 1})
	l := w.Network()
	if len(l) != 2 || l[0].Kind != api.KindPing || l[0].From != 1 || l[0].To != 0 || l[0].Seq != 1 || l[1].Seq != 2 {
		t.Error("the network is", l)
	}
	for draw, want := range map[uint64][]int{0: {2, 3}, 1: {3, 4}, 2: {4, 2}, 1<<64 - 1: {2, 3}} { // 2^64 - 1 is a multiple of 3
		w := metWorld(t, 5)
		loseAll(t, w)
		for range 10 {
			do(t, w, api.Event{Kind: api.EvTick, Peer: 0, Draw: draw})
		}
		var helpers []int
		for _, msg := range w.Network() {
			if msg.Kind == api.KindPingReq && msg.Target == 1 && len(helpers) < 2 {
				helpers = append(helpers, msg.To)
			}
		}
		expectPeers(t, "helpers", helpers, want...)
	}
}

// seqs returns the Seq of each message of the network.
func seqs(w *swarm.World) []int {
	var l []int
	for _, msg := range w.Network() {
		l = append(l, int(msg.Seq))
	}
	return l
}

// pings returns a world of two peers, of which only peer 0 runs and has sent pings, with the Seqs 1 and so on.
func pings(t *testing.T, count int) *swarm.World {
	t.Helper()
	w := newWorld(t, 2)
	do(t, w, api.Event{Kind: api.EvStart, Peer: 0})
	for range count {
		do(t, w, api.Event{Kind: api.EvTick, Peer: 0})
	}
	return w
}

// P10.3: the delivery, loss and duplication of messages, chosen modulo their number.
func TestMessages(t *testing.T) {
	for _, kind := range []api.EventKind{api.EvDeliver, api.EvLose, api.EvCopy} {
		refuse(t, newWorld(t, 2), api.Event{Kind: kind})
		for a, at := range map[int]int{0: 0, 3: 3, 4: 4, 5: 0, 12: 2, 65535: 0, -1: 4, -5: 0, -7: 3, 1 << 62: 4, -1 << 63: 2} {
			w := pings(t, 5)
			do(t, w, api.Event{Kind: kind, A: a})
			want := []int{1, 2, 3, 4, 5}
			if kind != api.EvCopy {
				want = slices.Delete(want, at, at+1)
			}
			if got := seqs(w); !slices.Equal(got, want) {
				t.Error("kind", kind, "with A", a, "leaves", got)
			}
			// Now to a peer that runs.
			w = pings(t, 5)
			do(t, w, api.Event{Kind: api.EvStart, Peer: 1})
			do(t, w, api.Event{Kind: kind, A: a})
			if kind != api.EvLose {
				want = append(want, at+1)
			}
			if got := seqs(w); !slices.Equal(got, want) {
				t.Error("kind", kind, "with A", a, "leaves", got)
			}
			if met := w.Table(1)[0].Status == api.Alive; met != (kind != api.EvLose) {
				t.Error("kind", kind, "delivers", met)
			}
			if last := w.Network()[len(w.Network())-1]; kind != api.EvLose && (last.Kind != api.KindAck || last.From != 1) {
				t.Error("the answer is", last)
			}
		}
	}
}

// P10.3: messages to peers that do not run, and messages that are refused.
func TestNobodyReceives(t *testing.T) {
	w := metWorld(t, 2)
	loseAll(t, w)
	do(t, w, api.Event{Kind: api.EvTick, Peer: 0})
	count := len(w.Network())
	do(t, w, api.Event{Kind: api.EvLeave, Peer: 1})
	do(t, w, api.Event{Kind: api.EvCopy})
	if len(w.Network()) != count+1 { // the one by which peer 1 leaves
		t.Error("a peer that has left answers", w.Network())
	}
	do(t, w, api.Event{Kind: api.EvStart, Peer: 1})
	do(t, w, api.Event{Kind: api.EvCrash, Peer: 1})
	do(t, w, api.Event{Kind: api.EvCopy})
	do(t, w, api.Event{Kind: api.EvDeliver})
	if len(w.Network()) != count {
		t.Error("a peer without power answers", w.Network())
	}
	// A peer that loses its power while it receives does not answer.
	w = metWorld(t, 2)
	data, _ := rankedData(t, 1, 1, 2, 1)
	loseAll(t, w)
	backup(t, w, 0, 1, 1, data)
	expectKinds(t, w, api.KindInstall)
	do(t, w, api.Event{Kind: api.EvArm, Peer: 1, A: 1})
	do(t, w, api.Event{Kind: api.EvDeliver})
	expectKinds(t, w)
	expectPeers(t, "running", w.Running(), 0)
}

// P10.3: the order of what a fair round does.
func TestRound(t *testing.T) {
	for _, draw := range []uint64{0, 1, 7, 1<<64 - 1, 12345678901234567890, 5} {
		const count = 9
		w := pings(t, count)
		do(t, w, api.Event{Kind: api.EvStart, Peer: 1})
		do(t, w, api.Event{Kind: api.EvRound, Draw: draw})
		// The Seqs of the pings in the order in which they are delivered.
		var left, order []int
		for seq := 1; seq <= count; seq++ {
			left = append(left, seq)
		}
		x := new(big.Int).SetUint64(draw)
		a, _ := new(big.Int).SetString("6364136223846793005", 10)
		c, _ := new(big.Int).SetString("1442695040888963407", 10)
		for len(left) > 0 {
			at := int(new(big.Int).Mod(x, big.NewInt(int64(len(left)))).Int64())
			order = append(order, left[at])
			left = slices.Delete(left, at, at+1)
			x.Mod(x.Add(x.Mul(x, a), c), new(big.Int).Lsh(big.NewInt(1), 64))
		}
		// First the two ticks, in ascending order: both send a ping, and peer 1 does not know peer 0 yet.
		want := append([]int{count + 1, 1}, order...)
		if got := seqs(w); !slices.Equal(got, want) {
			t.Error("with the draw", draw, "the Seqs are", got, "instead of", want)
		}
		if l := w.Network(); l[0].From != 0 || l[1].From != 1 || l[2].Kind != api.KindAck {
			t.Error("the network is", l)
		}
	}
	// A round applies also if nobody runs: the messages are gone then.
	w := pings(t, 3)
	do(t, w, api.Event{Kind: api.EvCrash, Peer: 0})
	do(t, w, api.Event{Kind: api.EvRound})
	if len(w.Network()) != 0 {
		t.Error("the network is", w.Network())
	}
	do(t, w, api.Event{Kind: api.EvRound})
}

// P10.3: in a fair round every peer ticks with the draw.
func TestRoundDraw(t *testing.T) {
	for draw, want := range map[uint64]int{0: 2, 1: 3, 2: 4} {
		w := metWorld(t, 5)
		do(t, w, api.Event{Kind: api.EvCrash, Peer: 1})
		for range 12 {
			do(t, w, api.Event{Kind: api.EvRound, Draw: draw})
			if n := slices.IndexFunc(w.Network(), func(msg api.Message) bool { return msg.Kind == api.KindPingReq && msg.From == 0 }); n >= 0 {
				if msg := w.Network()[n]; msg.To != want || msg.Target != 1 {
					t.Error("with the draw", draw, "the helper is", msg.To)
				}
				break
			}
		}
	}
}

// Example 3, P10.3: backups that do not apply, and those that do.
func TestBackup(t *testing.T) {
	w := metWorld(t, 3)
	for _, e := range []api.Event{
		{A: 0, B: 1}, {A: 2, B: 1}, {A: 1, B: 4}, {A: -1, B: 1}, {A: 1, B: 1, Data: make([]byte, 8193)}, {A: 65535, B: 65535},
	} {
		e.Kind = api.EvBackup
		refuse(t, w, e)
	}
	lonely := newWorld(t, 3)
	do(t, lonely, api.Event{Kind: api.EvStart, Peer: 0})
	refuse(t, lonely, api.Event{Kind: api.EvBackup, A: 1, B: 2, Data: []byte("x")})
	do(t, lonely, api.Event{Kind: api.EvBackup, A: 1, B: 1, Data: []byte("x")})

	_, _, first := encoded(t, 2, 3, 3, "first")
	_, _, second := encoded(t, 1, 2, 3, "second")
	if backup(t, w, 1, 2, 3, "first") != first || backup(t, w, 0, 1, 2, "second") != second {
		t.Error("the objects are", w.Objects())
	}
	do(t, w, api.Event{Kind: api.EvBackup, Peer: 2, A: 2, B: 3, Data: []byte("first")})
	if l := w.Objects(); !slices.Equal(l, []api.Digest{first, second}) {
		t.Error("an object that is backed up again is in", l)
	}
	rounds(t, w, 3)
	results := w.Log()
	slices.SortFunc(results, func(a, b api.Outcome) int { return a.Peer - b.Peer })
	if !sameLogs(results, []api.Outcome{
		{Peer: 0, Result: api.Result{Ticket: 1, Kind: api.OpBackup, Object: second}},
		{Peer: 1, Result: api.Result{Ticket: 1, Kind: api.OpBackup, Object: first}},
		{Peer: 2, Result: api.Result{Ticket: 1, Kind: api.OpBackup, Object: first}},
	}) {
		t.Error("the log is", w.Log())
	}
	do(t, w, api.Event{Kind: api.EvDelete, Peer: 1, A: 0})
	refuse(t, w, api.Event{Kind: api.EvBackup, Peer: 1, A: 2, B: 3, Data: []byte("first")})
}

// P10.3: a backup that loses the power applies, but returns no object.
func TestBackupWithoutPower(t *testing.T) {
	w := metWorld(t, 2)
	data, _ := rankedData(t, 1, 1, 2, 1)
	do(t, w, api.Event{Kind: api.EvArm, Peer: 1})
	do(t, w, api.Event{Kind: api.EvBackup, Peer: 1, A: 1, B: 1, Data: []byte(data)})
	expectPeers(t, "running", w.Running(), 0)
	if len(w.Objects()) != 0 || len(w.Log()) != 0 || len(w.Table(1)) != 0 || w.Incarnation(1) != 0 {
		t.Error("an object without an answer", w.Objects(), w.Log())
	}
	refuse(t, w, api.Event{Kind: api.EvRestore, Peer: 0})
	// The peer starts again, and its disk has power.
	do(t, w, api.Event{Kind: api.EvStart, Peer: 1})
	if w.Incarnation(1) != 2 || len(w.Held(1)) != 0 {
		t.Error("after a start", w.Incarnation(1), w.Held(1))
	}
}

// P10.3: the quota of the setup is that of every peer.
func TestQuota(t *testing.T) {
	w, _ := swarm.New(api.Setup{Peers: 2, Blocks: 64, Quota: 5})
	for i := range 2 {
		do(t, w, api.Event{Kind: api.EvStart, Peer: i})
	}
	rounds(t, w, 3)
	id := backup(t, w, 1, 1, 2, "12345")
	rounds(t, w, 3)
	expectOutcomes(t, w, api.Outcome{Peer: 1, Result: api.Result{Ticket: 1, Kind: api.OpBackup, Object: id}})
	id = backup(t, w, 1, 1, 2, "x")
	expectOutcomes(t, w, api.Outcome{Peer: 1, Result: api.Result{Ticket: 2, Kind: api.OpBackup, Code: api.ErrQuota, Object: id}})
	if len(w.Objects()) != 2 || len(w.Acknowledged()) != 1 {
		t.Error("the objects are", w.Objects(), w.Acknowledged())
	}
}

// P10.3: restores and deletes choose an object, and apply also if they fail.
func TestRestoreAndDelete(t *testing.T) {
	w := metWorld(t, 3)
	for _, kind := range []api.EventKind{api.EvRestore, api.EvDelete, api.EvRot} {
		refuse(t, w, api.Event{Kind: kind, Peer: 1, Draw: 1})
	}
	var ids []api.Digest
	var datas []string
	for range 3 {
		data, _ := rankedData(t, 1, 1, 3, 1)
		data += string(rune('a' + len(ids)))
		datas = append(datas, data)
		ids = append(ids, backup(t, w, 1, 1, 3, data))
	}
	rounds(t, w, 3)
	for a, at := range map[int]int{0: 0, 1: 1, 2: 2, 3: 0, 65535: 0, -1: 2, -2: 1} {
		before := len(w.Log())
		do(t, w, api.Event{Kind: api.EvRestore, Peer: 2, A: a})
		l := w.Log()
		if len(l) != before+1 || l[before].Peer != 2 || l[before].Result.Object != ids[at] || string(l[before].Result.Data) != datas[at] {
			t.Error("a restore with A", a, "has ended with", l[before:])
		}
	}
	do(t, w, api.Event{Kind: api.EvDelete, Peer: 2, A: 7}) // the second one
	if w.Status(2, ids[0]).Buried || !w.Status(2, ids[1]).Buried || w.Status(2, ids[2]).Buried {
		t.Error("another object is deleted")
	}
	before := len(w.Log())
	do(t, w, api.Event{Kind: api.EvRestore, Peer: 2, A: 1}) // ErrGone
	do(t, w, api.Event{Kind: api.EvDelete, Peer: 2, A: 1})  // once more
	if len(w.Log()) != before {
		t.Error("a restore of a deleted object has the outcome", w.Log())
	}

	// The end of a restore of an object that is deleted meanwhile is in the log at once.
	w = metWorld(t, 2)
	data, _ := rankedData(t, 1, 1, 2, 0)
	id := backup(t, w, 0, 1, 1, data)
	rounds(t, w, 5)
	do(t, w, api.Event{Kind: api.EvRestore, Peer: 1})
	do(t, w, api.Event{Kind: api.EvDelete, Peer: 1})
	expectOutcomes(t, w, api.Outcome{Peer: 1, Result: api.Result{Ticket: 1, Kind: api.OpRestore, Code: api.ErrGone, Object: id}})

	// A peer that has never heard of an object.
	w = metWorld(t, 2)
	backup(t, w, 0, 1, 1, data)
	do(t, w, api.Event{Kind: api.EvDelete, Peer: 1}) // ErrNone
	if w.Status(1, id).Buried {
		t.Error("an unknown object is deleted")
	}
	do(t, w, api.Event{Kind: api.EvRestore, Peer: 1})
	expectOutcomes(t, w, api.Outcome{Peer: 1, Result: api.Result{Ticket: 1, Kind: api.OpRestore, Code: api.ErrFew, Object: id}})
}

// P10.3: starts, and losses of power.
func TestStartAndCrash(t *testing.T) {
	w := newWorld(t, 3)
	do(t, w, api.Event{Kind: api.EvStart, Peer: 2})
	if len(w.Table(2)) != 3 || w.Incarnation(2) != 1 || w.Table(2)[2].Status != api.Alive {
		t.Error("the table is", w.Table(2))
	}
	for inc := range uint64(3) {
		image := w.Image(2)
		do(t, w, api.Event{Kind: api.EvCrash, Peer: 2})
		if w.Incarnation(2) != 0 || len(w.Table(2)) != 0 || len(w.Records(2)) != 0 || !bytes.Equal(w.Image(2), image) {
			t.Error("after a loss of power", w.Incarnation(2), w.Table(2))
		}
		do(t, w, api.Event{Kind: api.EvStart, Peer: 2})
		if w.Incarnation(2) != inc+2 {
			t.Error("the incarnation is", w.Incarnation(2))
		}
	}
	do(t, w, api.Event{Kind: api.EvLeave, Peer: 2})
	do(t, w, api.Event{Kind: api.EvStart, Peer: 2})
	if w.Incarnation(2) != 5 {
		t.Error("the incarnation after a leave is", w.Incarnation(2))
	}
}

// P10.3: the loss of power that is armed, and the ones that can not be.
func TestArm(t *testing.T) {
	w := metWorld(t, 2)
	for _, e := range []api.Event{{A: -1}, {B: -1}, {B: 129}, {A: 65535, B: 65535}} {
		e.Kind, e.Peer = api.EvArm, 1
		refuse(t, w, e)
	}
	data, _ := rankedData(t, 1, 1, 2, 1)
	before := w.Image(1)
	backup(t, w, 1, 1, 1, data)
	written := differences(before, w.Image(1)) // the piece is in two blocks
	first := written[0] / 128 * 128
	if last := written[len(written)-1]; last < first+128 || last >= first+256 {
		t.Fatal("the blocks that were written are", written)
	}
	want := w.Image(1)
	for _, x := range []struct{ after, keep, end int }{{0, 0, 0}, {0, 50, 50}, {0, 128, 128}, {1, 0, 128}, {1, 20, 148}, {1, 128, 256}} {
		w := metWorld(t, 2)
		do(t, w, api.Event{Kind: api.EvArm, Peer: 1, A: 1000, B: 1})
		do(t, w, api.Event{Kind: api.EvArm, Peer: 1, A: x.after, B: x.keep})
		do(t, w, api.Event{Kind: api.EvBackup, Peer: 1, A: 1, B: 1, Data: []byte(data)})
		expectPeers(t, "running", w.Running(), 0)
		image := slices.Concat(want[:first+x.end], before[first+x.end:])
		if !bytes.Equal(w.Image(1), image) {
			t.Error("after", x, "the disk differs at", differences(w.Image(1), image))
		}
	}
	// A start takes back what was armed before a leave.
	w = metWorld(t, 2)
	do(t, w, api.Event{Kind: api.EvArm, Peer: 1})
	do(t, w, api.Event{Kind: api.EvLeave, Peer: 1})
	do(t, w, api.Event{Kind: api.EvStart, Peer: 1})
	expectPeers(t, "running", w.Running(), 0, 1)
}

// P10.3: a disk that is wiped.
func TestWipe(t *testing.T) {
	w := metWorld(t, 3)
	backup(t, w, 0, 1, 3, "data")
	rounds(t, w, 2)
	do(t, w, api.Event{Kind: api.EvLeave, Peer: 2})
	if len(w.Table(2)) != 3 || len(w.Held(2)) != 1 || w.Incarnation(2) != 1 || len(w.Records(2)) == 0 || isZero(w.Image(2)) {
		t.Error("a peer that has left has no state any more")
	}
	do(t, w, api.Event{Kind: api.EvWipe, Peer: 2})
	if len(w.Table(2)) != 0 || len(w.Held(2)) != 0 || w.Incarnation(2) != 0 || len(w.Records(2)) != 0 || !isZero(w.Image(2)) {
		t.Error("after a wipe there is a peer")
	}
	expectPeers(t, "faulty", w.Faulty(), 2)
	do(t, w, api.Event{Kind: api.EvCrash, Peer: 0})
	do(t, w, api.Event{Kind: api.EvWipe, Peer: 0})
	expectPeers(t, "faulty", w.Faulty(), 0, 2)
	do(t, w, api.Event{Kind: api.EvStart, Peer: 2})
	if w.Incarnation(2) != 1 {
		t.Error("the incarnation is", w.Incarnation(2))
	}
	expectPeers(t, "faulty", w.Faulty(), 0, 2)
	w = newWorld(t, 2)
	do(t, w, api.Event{Kind: api.EvWipe, Peer: 1}) // it never started
	expectPeers(t, "faulty", w.Faulty(), 1)
}

// rotWorld returns a world of two peers, of whose three objects peer 1 holds the second one and peer 0 the others, with the first byte of the second one's record on the disk of peer 1 and the number of its bytes.
func rotWorld(t *testing.T) (w *swarm.World, first, size int) {
	t.Helper()
	w = metWorld(t, 2)
	zero, _ := rankedData(t, 1, 1, 2, 0)
	one, _ := rankedData(t, 2, 2, 2, 1)
	other, _ := rankedData(t, 1, 1, 2, 1)
	backup(t, w, 0, 1, 1, zero)
	before := w.Image(1)
	backup(t, w, 1, 1, 1, other)
	written := differences(before, w.Image(1))
	first = written[0] / 128 * 128
	size = written[len(written)-1]/128*128 + 128 - first
	backup(t, w, 0, 2, 2, one)
	if len(w.Held(0)) != 2 || len(w.Held(1)) != 1 || size < 256 {
		t.Fatal("the pieces are at", w.Held(0), w.Held(1), "with", size, "bytes")
	}
	return w, first, size
}

// P10.3: bytes that rot.
func TestRot(t *testing.T) {
	w, first, size := rotWorld(t)
	for _, x := range []struct {
		a, b int
		draw uint64
	}{
		{1, 0, 1}, {4, 5, 0x80}, {-2, 127, 0xff}, {1, 128, 0x1234ff01}, {1, size - 1, 2}, {1, size, 3}, {1, size + 130, 4},
		{1, -1, 5}, {1, -size, 6}, {1, 65535, 1<<64 - 1}, {1, 1 << 62, 0xaa}, {1, -1 << 63, 0x55},
	} {
		before := w.Image(1)
		do(t, w, api.Event{Kind: api.EvRot, Peer: 1, A: x.a, B: x.b, Draw: x.draw})
		after := w.Image(1)
		at := first + mod(x.b, size)
		if l := differences(before, after); len(l) != 1 || l[0] != at || before[at]^after[at] != byte(x.draw) {
			t.Error("the bytes at", l, "have changed, with", x, "instead of the one at", at)
		}
		expectPeers(t, "faulty", w.Faulty(), 1)
	}
	for _, e := range []api.Event{{Peer: 1, A: 1}, {Peer: 1, A: 1, Draw: 256}, {Peer: 1, A: 1, Draw: 0xffffffffffffff00}, {Peer: 1, Draw: 1}, {Peer: 1, A: 2, Draw: 1}, {Peer: 0, A: 1, Draw: 1}} {
		e.Kind = api.EvRot
		refuse(t, w, e)
	}
	expectPeers(t, "faulty", w.Faulty(), 1)
	if len(w.Held(1)) != 1 {
		t.Error("the damage is known before the piece is read")
	}
	do(t, w, api.Event{Kind: api.EvTick, Peer: 1})
	if len(w.Held(1)) != 0 {
		t.Error("the damage is not found")
	}
	refuse(t, w, api.Event{Kind: api.EvRot, Peer: 1, A: 1, Draw: 1})
	do(t, w, api.Event{Kind: api.EvRot, Peer: 0, A: 0, Draw: 1})
	expectPeers(t, "faulty", w.Faulty(), 0, 1)
}

// P10.3: a peer that leaves.
func TestLeave(t *testing.T) {
	w := metWorld(t, 3)
	loseAll(t, w)
	data, id := rankedData(t, 1, 1, 3, 0)
	backup(t, w, 1, 1, 1, data)
	expectKinds(t, w, api.KindInstall)
	do(t, w, api.Event{Kind: api.EvLeave, Peer: 1})
	expectKinds(t, w, api.KindInstall, api.KindAck, api.KindAck)
	expectOutcomes(t, w, api.Outcome{Peer: 1, Result: api.Result{Ticket: 1, Kind: api.OpBackup, Code: api.ErrState, Object: id}})
	expectPeers(t, "running", w.Running(), 0, 2)
	deliver(t, w, api.KindAck, 1, 2)
	if w.Table(2)[1].Status != api.Left || w.Table(1)[1].Status != api.Left {
		t.Error("the tables are", w.Table(1), w.Table(2))
	}
}

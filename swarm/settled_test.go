package swarm_test

import (
	"slices"
	"testing"

	"stolon/api"
	"stolon/swarm"
)

// twins are a world and its model, of which the model tells which conditions are violated.
type twins struct {
	t *testing.T
	w *swarm.World
	m *model
}

// newTwins returns twins in which nothing has happened.
func newTwins(t *testing.T, peers int) twins {
	t.Helper()
	s := api.Setup{Peers: peers, Blocks: 200, Quota: 1 << 20}
	w, _ := swarm.New(s)
	return twins{t, w, newModel(s)}
}

// metTwins returns twins in which all peers run and know each other.
func metTwins(t *testing.T, peers int) twins {
	t.Helper()
	c := newTwins(t, peers)
	for i := range peers {
		c.do(api.Event{Kind: api.EvStart, Peer: i})
	}
	for range 2 * peers {
		c.do(api.Event{Kind: api.EvRound})
	}
	return c
}

// do lets an event happen that must apply.
func (c twins) do(e api.Event) {
	c.t.Helper()
	do(c.t, c.w, e)
	if !c.m.do(e) {
		c.t.Fatal("an event does not apply to the model:", e)
	}
}

// expect checks which conditions are violated.
func (c twins) expect(name string, want ...int) {
	c.t.Helper()
	if got := c.m.violated(); !slices.Equal(got, want) {
		c.t.Errorf("%s: violated are %v instead of %v", name, got, want)
	}
	if got := c.w.Settled(); got != (len(want) == 0) {
		c.t.Error(name, "Settled returns", got)
	}
}

// roundsUntil makes fair rounds until just these conditions are violated.
func (c twins) roundsUntil(name string, want ...int) {
	c.t.Helper()
	for range 300 {
		if slices.Equal(c.m.violated(), want) {
			c.expect(name, want...)
			return
		}
		c.do(api.Event{Kind: api.EvRound})
	}
	c.t.Fatalf("%s: there are never violated %v, but %v", name, want, c.m.violated())
}

// tickUntil lets some peers tick, and delivers all messages each time, until just these conditions are violated.
func (c twins) tickUntil(name string, peers []int, want ...int) {
	c.t.Helper()
	for range 100 {
		for _, i := range peers {
			c.do(api.Event{Kind: api.EvTick, Peer: i})
		}
		for len(c.w.Network()) > 0 {
			c.do(api.Event{Kind: api.EvDeliver})
		}
		if slices.Equal(c.m.violated(), want) {
			c.expect(name, want...)
			return
		}
	}
	c.t.Fatalf("%s: there are never violated %v, but %v", name, want, c.m.violated())
}

// backup lets a peer back up an object.
func (c twins) backup(i, k, n int, data string) {
	c.t.Helper()
	c.do(api.Event{Kind: api.EvBackup, Peer: i, A: k, B: n, Data: []byte(data)})
}

// deliver delivers the first message of a kind from a peer to another one.
func (c twins) deliver(kind api.Kind, from, to int) {
	c.t.Helper()
	c.do(api.Event{Kind: api.EvDeliver, A: numberOf(c.t, c.w, kind, from, to)})
}

// loseAll loses all messages but those of some kinds.
func (c twins) loseAll(but ...api.Kind) {
	c.t.Helper()
	for i := 0; i < len(c.w.Network()); {
		if slices.Contains(but, c.w.Network()[i].Kind) {
			i++
			continue
		}
		c.do(api.Event{Kind: api.EvLose, A: i})
	}
}

// P10.6: a swarm in which nobody runs is not settled.
func TestNobodyRuns(t *testing.T) {
	c := newTwins(t, 2)
	c.expect("new", 1)
	c.do(api.Event{Kind: api.EvStart, Peer: 1})
	c.expect("one runs")
	c.do(api.Event{Kind: api.EvCrash, Peer: 1})
	c.expect("it has crashed", 1)
	c.do(api.Event{Kind: api.EvStart, Peer: 1})
	c.do(api.Event{Kind: api.EvLeave, Peer: 1})
	c.expect("it has left", 1)
}

// P10.6, condition 1: tables.
func TestTables(t *testing.T) {
	c := metTwins(t, 3)
	c.expect("all have met")
	c.do(api.Event{Kind: api.EvCrash, Peer: 2})
	c.expect("a peer is thought to run", 1)
	c.roundsUntil("it is known to be dead")
	c.do(api.Event{Kind: api.EvStart, Peer: 2})
	c.expect("a peer is unknown", 1, 2)
	c.roundsUntil("it is known")
	for range 60 {
		c.do(api.Event{Kind: api.EvTick, Peer: 2})
	}
	c.loseAll()
	c.expect("others are thought to be dead", 1)
}

// P10.6, condition 2: records.
func TestRecords(t *testing.T) {
	c := metTwins(t, 2)
	c.loseAll()
	c.do(api.Event{Kind: api.EvCrash, Peer: 1})
	c.do(api.Event{Kind: api.EvStart, Peer: 1})
	c.do(api.Event{Kind: api.EvTick, Peer: 1})
	c.deliver(api.KindPing, 1, 0)
	c.deliver(api.KindAck, 0, 1)
	c.loseAll()
	c.expect("a base is unknown", 2)
	c.roundsUntil("it is known")
}

// P10.6, condition 3: who holds which pieces.
func TestPlaces(t *testing.T) {
	data, id := rankedData(t, 2, 2, 4, 2, 0, 3, 1)
	c := metTwins(t, 4)
	c.backup(1, 2, 2, data)
	c.roundsUntil("backed up")
	for i, want := range []bool{true, false, true, false} {
		if c.w.Status(i, id).Held != want {
			t.Error("peer", i, "holds", !want)
		}
	}
	// One of two pieces that are needed is lost: every 20 ticks a build begins, and ends soon.
	c.do(api.Event{Kind: api.EvCrash, Peer: 2})
	c.do(api.Event{Kind: api.EvWipe, Peer: 2})
	c.do(api.Event{Kind: api.EvStart, Peer: 2})
	c.roundsUntil("it can not be built", 3)

	// A peer that is not chosen any more holds its piece until it ticks.
	c = threeTwins(t)
	c.tickUntil("the best of three has its piece too", []int{1, 2}, 3)
	c.roundsUntil("the best of three alone has its piece")
	if len(c.w.Held(0))+len(c.w.Held(1)) != 0 || len(c.w.Held(2)) != 1 {
		t.Error("another one has its piece")
	}
}

// threeTwins returns twins of three peers, of which peer 0 holds the only piece of an object and peer 2, which is better, has just started.
func threeTwins(t *testing.T) twins {
	t.Helper()
	data, _ := rankedData(t, 1, 1, 3, 2, 0, 1)
	c := newTwins(t, 3)
	for i := range 2 {
		c.do(api.Event{Kind: api.EvStart, Peer: i})
	}
	c.roundsUntil("two run")
	c.backup(0, 1, 1, data)
	c.roundsUntil("the better of two has its piece")
	c.loseAll()
	c.do(api.Event{Kind: api.EvStart, Peer: 2})
	return c
}

// P10.6: peers that do not run count for nothing, whatever they hold and whatever the records say of them.
func TestOthersDoNotCount(t *testing.T) {
	data, id := rankedData(t, 1, 2, 4, 2, 0, 3, 1)
	c := metTwins(t, 4)
	c.backup(1, 1, 2, data)
	c.roundsUntil("backed up")
	c.do(api.Event{Kind: api.EvLeave, Peer: 2})
	c.roundsUntil("another one has built the piece")
	if l := c.w.Status(3, id).Holders; !slices.Equal(l, []int{0, 2, 3}) || !slices.Equal(c.w.Held(2), []api.Digest{id}) {
		t.Error("the holders are", l)
	}
	c.do(api.Event{Kind: api.EvCrash, Peer: 0})
	c.roundsUntil("a third one has built it")
	c.do(api.Event{Kind: api.EvDelete, Peer: 1})
	c.roundsUntil("it is deleted")
	if len(c.w.Held(2)) != 1 || len(c.w.Held(1)) != 0 {
		t.Error("a peer that has left knows of the deletion")
	}
}

// P10.6, condition 4: tasks and operations.
func TestBusy(t *testing.T) {
	data, _ := rankedData(t, 1, 2, 4, 2, 0, 3, 1)
	c := metTwins(t, 4)
	c.backup(1, 1, 2, data)
	c.roundsUntil("backed up")
	c.do(api.Event{Kind: api.EvRestore, Peer: 1})
	c.loseAll()
	c.expect("a restore is pending", 4)
	for range 30 {
		c.do(api.Event{Kind: api.EvRound})
	}
	c.roundsUntil("it has ended")

	// A build that is not needed any more lasts until the next tick of its peer.
	c.do(api.Event{Kind: api.EvCrash, Peer: 2})
	for len(c.m.peers[3].Builds()) == 0 {
		c.do(api.Event{Kind: api.EvRound})
	}
	c.loseAll()
	c.do(api.Event{Kind: api.EvStart, Peer: 2})
	c.tickUntil("a build is not needed", []int{0, 1, 2}, 4)
	if len(c.m.peers[3].Builds()) != 1 {
		t.Error("the build has ended")
	}
	c.tickUntil("it has ended", []int{3})

	// So does a shed.
	c = threeTwins(t)
	for len(c.m.peers[0].Sheds()) == 0 {
		c.do(api.Event{Kind: api.EvRound})
	}
	c.loseAll()
	c.do(api.Event{Kind: api.EvCrash, Peer: 2})
	c.tickUntil("a shed is not needed", []int{1}, 4)
	if len(c.m.peers[0].Sheds()) != 1 {
		t.Error("the shed has ended")
	}
	c.tickUntil("it has ended", []int{0})
}

// P10.6, condition 5: messages.
func TestMessagesUnderWay(t *testing.T) {
	data, _ := rankedData(t, 1, 2, 3, 2, 0, 1)
	c := metTwins(t, 3)
	c.backup(1, 1, 2, data)
	c.roundsUntil("backed up")
	c.do(api.Event{Kind: api.EvRestore, Peer: 1})
	c.loseAll(api.KindFetch)
	c.deliver(api.KindFetch, 1, 0)
	c.deliver(api.KindOffer, 0, 1)
	c.expect("a request is under way", 5)
	c.do(api.Event{Kind: api.EvDeliver})
	expectKinds(t, c.w, api.KindOffer)
	c.expect("an answer is under way", 5)
	c.loseAll()
	c.expect("it is lost")
}

// P10.6, condition 5: records that nobody knows, since the disk of the peer that sent them was wiped.
func TestRecordsUnderWay(t *testing.T) {
	c := metTwins(t, 2)
	c.loseAll()
	c.do(api.Event{Kind: api.EvTick, Peer: 0})
	c.loseAll(api.KindPing)
	for range 4 {
		c.do(api.Event{Kind: api.EvCrash, Peer: 1})
		c.do(api.Event{Kind: api.EvStart, Peer: 1})
	}
	c.deliver(api.KindPing, 0, 1)
	c.loseAll()
	// Now peer 1 has the incarnation 5 and knows peer 0, but peer 0 does not know that.
	c.do(api.Event{Kind: api.EvTick, Peer: 1})
	c.deliver(api.KindSum, 1, 0)
	c.deliver(api.KindItems, 0, 1)
	c.loseAll(api.KindItems)
	expectKinds(t, c.w, api.KindItems)
	c.do(api.Event{Kind: api.EvCrash, Peer: 1})
	c.do(api.Event{Kind: api.EvWipe, Peer: 1})
	c.do(api.Event{Kind: api.EvStart, Peer: 1})
	// The message with the base of the incarnation 5 stays at the beginning of the network.
	for range 3 {
		for i := range 2 {
			c.do(api.Event{Kind: api.EvTick, Peer: i})
		}
		for len(c.w.Network()) > 1 {
			c.do(api.Event{Kind: api.EvDeliver, A: 1})
		}
	}
	if c.w.Incarnation(1) != 1 {
		t.Fatal("the incarnation is", c.w.Incarnation(1))
	}
	c.expect("a base that nobody knows", 5)
	c.do(api.Event{Kind: api.EvCopy})
	if c.w.Incarnation(1) != 1 {
		t.Error("the incarnation is", c.w.Incarnation(1))
	}
	c.roundsUntil("it is refuted")
}

package swarm_test

import (
	"bytes"
	"fmt"
	"slices"
	"testing"

	"stolon/api"
	"stolon/digest"
	"stolon/place"
	"stolon/rs"
	"stolon/swarm"
	"stolon/wire"
)

// newWorld returns a world in which nothing has happened, with room for everything.
func newWorld(t *testing.T, peers int) *swarm.World {
	t.Helper()
	w, e := swarm.New(api.Setup{Peers: peers, Blocks: 200, Quota: 1 << 20})
	if e != api.OK || w == nil {
		t.Fatal("New returns", e)
	}
	return w
}

// metWorld returns a world in which all peers run and know each other.
func metWorld(t *testing.T, peers int) *swarm.World {
	t.Helper()
	w := newWorld(t, peers)
	for i := range peers {
		do(t, w, api.Event{Kind: api.EvStart, Peer: i})
	}
	rounds(t, w, peers+2)
	for i := range peers {
		for j, entry := range w.Table(i) {
			if entry.Status != api.Alive {
				t.Fatal("peer", i, "has not met peer", j)
			}
		}
	}
	return w
}

// do lets an event happen that must apply.
func do(t *testing.T, w *swarm.World, e api.Event) {
	t.Helper()
	before := w.Applied()
	if !w.Do(e) {
		t.Fatal("an event does not apply:", e)
	}
	if w.Applied() != before+1 {
		t.Fatal("an event that applies is not counted:", e)
	}
}

// refuse checks that an event does not apply, and changes nothing.
func refuse(t *testing.T, w *swarm.World, e api.Event) {
	t.Helper()
	before := view(w)
	if w.Do(e) {
		t.Error("an event applies:", e)
	}
	if view(w) != before {
		t.Error("an event that does not apply changes something:", e)
	}
}

// rounds makes fair rounds.
func rounds(t *testing.T, w *swarm.World, count int) {
	t.Helper()
	for i := range count {
		do(t, w, api.Event{Kind: api.EvRound, Draw: uint64(i) * 12345678901})
	}
}

// view returns all that can be seen of a world.
func view(w *swarm.World) string {
	s := fmt.Sprint(w.Network(), w.Running(), w.Objects(), w.Log(), w.Acknowledged(), w.Faulty(), w.Settled(), w.Applied())
	for i := range api.MaxPeers {
		s += fmt.Sprint(w.Table(i), w.Records(i), w.Held(i), w.Incarnation(i), digest.SHA256(w.Image(i)))
	}
	return s
}

// encoded returns an object, its pieces and its id.
func encoded(t *testing.T, k, n, peers int, data string) (api.Manifest, []api.Piece, api.Digest) {
	t.Helper()
	m, pieces, e := digest.Make(rs.NewField(), k, n, peers, []byte(data))
	if e != api.OK {
		t.Fatal("Make returns", e)
	}
	id, _ := digest.ID(m)
	return m, pieces, id
}

// rankedData returns data whose object, of a swarm in which all peers run, has these peers as the best ones, and the object's id.
func rankedData(t *testing.T, k, n, peers int, best ...int) (string, api.Digest) {
	t.Helper()
	for i := range 10000 {
		data := fmt.Sprint("data ", i)
		_, _, id := encoded(t, k, n, peers, data)
		if slices.Equal(place.Ranking(id, peers)[:len(best)], best) {
			return data, id
		}
	}
	t.Fatal("no such object")
	return "", api.Digest{}
}

// backup lets a peer back up an object, which must become the last one of the world.
func backup(t *testing.T, w *swarm.World, i, k, n int, data string) api.Digest {
	t.Helper()
	do(t, w, api.Event{Kind: api.EvBackup, Peer: i, A: k, B: n, Data: []byte(data)})
	l := w.Objects()
	return l[len(l)-1]
}

// numberOf returns the number of the first message of a kind from a peer to another one, as an event chooses it.
func numberOf(t *testing.T, w *swarm.World, kind api.Kind, from, to int) int {
	t.Helper()
	n := slices.IndexFunc(w.Network(), func(msg api.Message) bool { return msg.Kind == kind && msg.From == from && msg.To == to })
	if n < 0 {
		t.Fatal("there is no", wire.Name(kind), "from", from, "to", to)
	}
	return n
}

// deliver delivers the first message of a kind from a peer to another one.
func deliver(t *testing.T, w *swarm.World, kind api.Kind, from, to int) {
	t.Helper()
	do(t, w, api.Event{Kind: api.EvDeliver, A: numberOf(t, w, kind, from, to)})
}

// loseAll loses all messages.
func loseAll(t *testing.T, w *swarm.World) {
	t.Helper()
	for len(w.Network()) > 0 {
		do(t, w, api.Event{Kind: api.EvLose})
	}
}

// expectOutcomes checks the last outcomes of the log.
func expectOutcomes(t *testing.T, w *swarm.World, want ...api.Outcome) {
	t.Helper()
	l := w.Log()
	if got := l[max(0, len(l)-len(want)):]; !sameLogs(got, want) {
		t.Errorf("the log ends with\n%v instead of\n%v", got, want)
	}
}

// expectKinds checks the kinds of the messages in the network, in order.
func expectKinds(t *testing.T, w *swarm.World, want ...api.Kind) {
	t.Helper()
	var got []api.Kind
	for _, msg := range w.Network() {
		got = append(got, msg.Kind)
	}
	if !slices.Equal(got, want) {
		t.Errorf("the kinds of the messages are %v instead of %v", got, want)
	}
}

// expectPeers checks a list of peers.
func expectPeers(t *testing.T, name string, got []int, want ...int) {
	t.Helper()
	if !slices.Equal(got, want) {
		t.Errorf("%s are %v instead of %v", name, got, want)
	}
}

// differences returns the numbers of the bytes in which two images of one size differ.
func differences(a, b []byte) []int {
	var l []int
	for i := range a {
		if a[i] != b[i] {
			l = append(l, i)
		}
	}
	return l
}

// isZero reports whether all bytes are zero.
func isZero(b []byte) bool { return len(bytes.Trim(b, "\x00")) == 0 }

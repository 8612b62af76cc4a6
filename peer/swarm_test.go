package peer_test

import (
	"math/rand/v2"
	"slices"
	"testing"

	"stolon/api"
	"stolon/peer"
	"stolon/place"
)

// swarm is a number of peers with their disks, and the messages that are under way.
type swarm struct {
	t       *testing.T
	r       *rand.Rand
	nodes   []node // with a nil Peer if it never started
	network []api.Message
	log     []api.Result
}

// newSwarm returns a swarm of which no peer runs.
func newSwarm(t *testing.T, seed uint64, peers int) *swarm {
	s := &swarm{t: t, r: rand.New(rand.NewPCG(seed, 99))}
	for i := range peers {
		s.nodes = append(s.nodes, node{nil, t, i, peers, newDisk(t, 400)})
	}
	return s
}

// start starts a peer.
func (s *swarm) start(i int) {
	s.nodes[i].disk.PowerOn()
	s.nodes[i] = startOn(s.t, s.nodes[i].disk, i, len(s.nodes))
}

// running returns the peers that run.
func (s *swarm) running() []int {
	var list []int
	for i, n := range s.nodes {
		if n.Peer != nil && n.Running() {
			list = append(list, i)
		}
	}
	return list
}

// send adds the messages of a call to the network, and its results to the log.
func (s *swarm) send(p *peer.Peer, l []api.Message) {
	s.network = append(s.network, l...)
	s.log = append(s.log, p.Results()...)
}

// deliver lets a message be received if its receiver runs.
func (s *swarm) deliver(msg api.Message) {
	s.t.Helper()
	if n := s.nodes[msg.To]; n.Peer != nil && n.Running() {
		l, e := n.Receive(msg)
		if e != api.OK && e != api.ErrDown {
			s.t.Fatal("a peer has sent", msg, e)
		}
		s.send(n.Peer, l)
	}
}

// rounds makes fair rounds, with a random order of the messages.
func (s *swarm) rounds(count int) {
	s.t.Helper()
	for range count {
		old := s.network
		s.network = nil
		for _, i := range s.running() {
			l, _ := s.nodes[i].Tick(s.r.Uint64())
			s.send(s.nodes[i].Peer, l)
		}
		s.r.Shuffle(len(old), func(i, j int) { old[i], old[j] = old[j], old[i] })
		for _, msg := range old {
			s.deliver(msg)
		}
	}
}

// holders returns the running peers that hold their piece of an object.
func (s *swarm) holders(o object) []int {
	var list []int
	for _, i := range s.running() {
		if s.nodes[i].Status(o.id).Held {
			list = append(list, i)
		}
	}
	return list
}

// expectSettled checks that the best running peers hold their pieces of the objects, that all know it, and that nothing is to be done.
func (s *swarm) expectSettled(name string, objects ...object) {
	s.t.Helper()
	running := s.running()
	for _, i := range running {
		n := s.nodes[i]
		if !slices.Equal(n.Records(), s.nodes[running[0]].Records()) {
			s.t.Error(name, "not all have the same records")
		}
		n.expectTasks(name, nil, nil)
		n.expectPending(name)
	}
	for _, o := range objects {
		want := place.Chosen(o.id, running, o.m.N)
		slices.Sort(want)
		if got := s.holders(o); !slices.Equal(got, want) {
			s.t.Errorf("%s: the holders are %v instead of %v", name, got, want)
		}
		for _, i := range running {
			if got := s.nodes[i].Status(o.id); !slices.Equal(place.Sources(-1, got.Holders, running), want) {
				s.t.Error(name, "the holders are thought to be", got)
			}
		}
	}
	for _, msg := range s.network {
		if msg.Kind >= api.KindClaim {
			s.t.Error(name, "a message is under way", msg)
		}
	}
}

// expectRestored checks that every running peer can restore an object.
func (s *swarm) expectRestored(o object) {
	s.t.Helper()
	for _, i := range s.running() {
		s.log = nil
		_, l := s.nodes[i].restore(o)
		s.send(s.nodes[i].Peer, l)
		s.rounds(3)
		if len(s.log) != 1 || s.log[0].Code != api.OK || string(s.log[0].Data) != o.data {
			s.t.Error("a restore has ended with", s.log)
		}
	}
}

// P9.2 to P9.5, P9.9: a swarm stores an object, rebuilds pieces that are lost, and drops those that are too many.
func TestSwarm(t *testing.T) {
	s := newSwarm(t, 1, 5)
	for i := range 3 {
		s.start(i)
	}
	s.rounds(5)
	o := newObject(t, 2, 3, 5, "precious")
	_, l := s.nodes[1].backup(o)
	s.send(s.nodes[1].Peer, l)
	s.rounds(3)
	if len(s.log) != 1 || s.log[0].Code != api.OK {
		t.Fatal("not acknowledged", s.log)
	}
	s.rounds(200)
	s.expectSettled("backed up", o)
	s.expectRestored(o)

	// A disk is lost.
	s.nodes[2].disk.PowerOff()
	s.nodes[2].disk.Wipe()
	s.start(2)
	s.rounds(200)
	s.expectSettled("rebuilt", o)
	s.expectRestored(o)

	// All peers run, and better ones take over.
	s.start(3)
	s.start(4)
	s.rounds(300)
	s.expectSettled("grown", o)
	s.expectRestored(o)

	// Two go, one after the other, and come back with what they had.
	l, e := s.nodes[o.rank[0]].Leave()
	expectCode(t, "Leave", e, api.OK)
	s.send(s.nodes[o.rank[0]].Peer, l)
	s.rounds(300)
	s.expectSettled("one has left", o)
	s.nodes[o.rank[1]].disk.PowerOff()
	s.rounds(300)
	s.expectSettled("one has no power", o)
	s.start(o.rank[0])
	s.start(o.rank[1])
	s.rounds(300)
	s.expectSettled("grown again", o)
	s.expectRestored(o)

	expectCode(t, "Delete", s.nodes[0].Delete(o.id), api.OK)
	s.rounds(60)
	if l := s.holders(o); len(l) != 0 {
		t.Error("deleted, but held by", l)
	}
}

package member_test

import (
	"math/rand/v2"
	"slices"
	"testing"

	"stolon/api"
	"stolon/member"
)

// swarm is a number of machines, and a network that loses, doubles and delays messages.
type swarm struct {
	r        *rand.Rand
	machines []*member.Machine // nil for a peer that does not run
	last     []uint64          // the last incarnation of each peer
	network  []api.Message
}

// newSwarm returns a swarm of which no peer runs.
func newSwarm(seed uint64, peers int) *swarm {
	return &swarm{r: rand.New(rand.NewPCG(seed, 13)), machines: make([]*member.Machine, peers), last: make([]uint64, peers)}
}

// running returns the peers that run.
func (s *swarm) running() []int {
	var list []int
	for i, m := range s.machines {
		if m != nil {
			list = append(list, i)
		}
	}
	return list
}

// start starts a peer in a new incarnation.
func (s *swarm) start(t *testing.T, peer int) {
	t.Helper()
	s.last[peer] += uint64(1 + s.r.IntN(2))
	s.machines[peer] = newMachine(t, peer, len(s.machines), s.last[peer])
}

// stop stops a peer, which perhaps says that it leaves.
func (s *swarm) stop(peer int) {
	if s.r.IntN(2) == 0 {
		s.network = append(s.network, s.machines[peer].Leave()...)
	}
	s.machines[peer] = nil
}

// deliver lets a message be received, if its receiver runs, and answers a challenge at once.
func (s *swarm) deliver(t *testing.T, msg api.Message) {
	t.Helper()
	m := s.machines[msg.To]
	if m == nil {
		return
	}
	s.network = append(s.network, receive(t, m, msg)...)
	if challenge := m.Challenge(); challenge != 0 {
		s.last[msg.To] = max(s.last[msg.To], challenge) + 1
		if e := m.Reincarnate(s.last[msg.To]); e != api.OK || m.Challenge() != 0 {
			t.Fatal("Reincarnate", e)
		}
	}
}

// disturb lets something happen to the swarm.
func (s *swarm) disturb(t *testing.T) {
	t.Helper()
	peer := s.r.IntN(len(s.machines))
	switch n := s.r.IntN(100); {
	case n < 3 && s.machines[peer] == nil:
		s.start(t, peer)
	case n == 4 && s.machines[peer] != nil:
		s.stop(peer)
	case n == 5:
		s.network = append(s.network, s.forged(peer))
	case n < 60 && s.machines[peer] != nil:
		s.network = append(s.network, s.machines[peer].Tick(s.r.Uint64())...)
	case len(s.network) > 0:
		i := s.r.IntN(len(s.network))
		msg := s.network[i]
		if s.r.IntN(5) != 0 {
			s.network[i] = s.network[len(s.network)-1]
			s.network = s.network[:len(s.network)-1]
		}
		if s.r.IntN(3) != 0 {
			s.deliver(t, msg)
		}
	}
}

// forged returns a message to a peer with any claims.
func (s *swarm) forged(to int) api.Message {
	peers := len(s.machines)
	table := make([]api.Member, peers)
	for i := range table {
		if s.r.IntN(3) == 0 {
			table[i] = entry(s.last[i]+uint64(1+s.r.IntN(3)), api.Status(1+s.r.IntN(4)))
		}
	}
	return api.Message{
		Kind: api.Kind(1 + s.r.IntN(3)), From: (to + 1 + s.r.IntN(peers-1)) % peers, To: to,
		Seq: uint64(s.r.IntN(30)), Origin: s.r.IntN(peers), Target: s.r.IntN(peers), Table: table,
	}
}

// fairRound makes a fair round, with a random order of the messages.
func (s *swarm) fairRound(t *testing.T) {
	t.Helper()
	old := s.network
	s.network = nil
	for _, m := range s.machines {
		if m != nil {
			s.network = append(s.network, m.Tick(s.r.Uint64())...)
		}
	}
	s.r.Shuffle(len(old), func(i, j int) { old[i], old[j] = old[j], old[i] })
	for _, msg := range old {
		s.deliver(t, msg)
	}
}

// settled reports whether in every running machine exactly the running peers are live.
func (s *swarm) settled() bool {
	running := s.running()
	for _, i := range running {
		if !slices.Equal(s.machines[i].Live(), running) {
			return false
		}
	}
	return true
}

// expectSettled makes the promised number of fair rounds, and some more, and checks the tables.
func (s *swarm) expectSettled(t *testing.T, name string) {
	t.Helper()
	for range member.Rounds(len(s.machines)) {
		s.fairRound(t)
	}
	for more := range 40 {
		if !s.settled() {
			for _, i := range s.running() {
				t.Log(i, s.machines[i].Live())
			}
			t.Fatal(name, "not settled", more, "rounds after the promised ones, running are", s.running())
		}
		s.fairRound(t)
	}
}

// P5.13: after any events, with all numbers of peers.
func TestConvergence(t *testing.T) {
	for seed := range uint64(150) {
		s := newSwarm(seed, 2+int(seed%15))
		for i := range s.machines {
			if s.r.IntN(3) != 0 {
				s.start(t, i)
			}
		}
		for phase := range 2 {
			for range s.r.IntN(2000) {
				s.disturb(t)
			}
			s.expectSettled(t, []string{"after the first events", "after more events"}[phase])
		}
	}
}

// P5.13: a swarm that is settled, of which peers stop without a word, start again, or start for the first time.
func TestConvergenceAfterStops(t *testing.T) {
	for peers := 2; peers <= 16; peers++ {
		s := newSwarm(uint64(1000+peers), peers)
		for i := range peers - 1 {
			s.start(t, i)
		}
		s.expectSettled(t, "the first start")
		for range 3 {
			for i := range peers {
				switch {
				case s.machines[i] == nil:
					s.start(t, i)
				case s.r.IntN(2) == 0:
					s.machines[i] = nil
				}
			}
			s.expectSettled(t, "after stops and starts")
		}
	}
}

// P5.13: in a settled swarm, nobody is suspected, and no incarnation changes.
func TestSettledSwarmIsQuiet(t *testing.T) {
	s := newSwarm(77, 7)
	for _, i := range []int{0, 2, 3, 6} {
		s.start(t, i)
	}
	s.expectSettled(t, "the start")
	table := s.machines[0].Table()
	for range 200 {
		s.fairRound(t)
		for _, i := range s.running() {
			if got := s.machines[i].Table(); !slices.Equal(got, table) {
				t.Fatal("the table changes", got)
			}
		}
	}
}

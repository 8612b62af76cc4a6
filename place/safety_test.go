package place_test

import (
	"math/bits"
	"math/rand/v2"
	"testing"

	"stolon/api"
	"stolon/place"
)

// P7.12. A Keep may be under way for any time, so a peer may use any of those that were ever sent to it; and as more of them never hinder a drop, it is enough to look at all of them.

// small is how many peers the exhaustive search has.
const small = 4

// swarm is a state of the peers of one object. The bit i of a set stands for peer i.
type swarm struct {
	holders uint8
	faulty  uint8        // peers that ever had a fault
	sent    [small]uint8 // the senders of the Keeps to each peer
	reached bool         // whether n peers have held their pieces at one time
}

// mayDrop tells for each peer and set of senders whether Covered is true.
type mayDrop [small][1 << small]bool

// newMayDrop asks Covered.
func newMayDrop(object api.Digest, n int) mayDrop {
	var may mayDrop
	for self := range small {
		for keeps := range 1 << small {
			may[self][keeps] = place.Covered(object, self, n, peersOf(keeps, small))
		}
	}
	return may
}

// next returns the states that one step leads to, and how many of them are drops.
func (s swarm) next(n int, may mayDrop) (states []swarm, drops int) {
	for peer := range small {
		bit := uint8(1) << peer
		if s.holders&bit == 0 {
			gets := s
			gets.holders |= bit
			gets.reached = s.reached || bits.OnesCount8(gets.holders) >= n
			states = append(states, gets)
			continue
		}
		loses := s
		loses.holders &^= bit
		if may[peer][s.sent[peer]] {
			states = append(states, loses)
			drops++
		}
		loses.faulty |= bit
		states = append(states, loses)
		for to := range small {
			if to != peer && s.sent[to]&bit == 0 {
				says := s
				says.sent[to] |= bit
				states = append(states, says)
			}
		}
	}
	return states, drops
}

// safe reports whether a state is as the promise says.
func (s swarm) safe(n int) bool {
	return !s.reached || bits.OnesCount8(s.holders) >= n-bits.OnesCount8(s.faulty)
}

// number returns another number for each state.
func (s swarm) number() int {
	number := int(s.holders)<<small | int(s.faulty)
	for _, senders := range s.sent {
		number = number<<small | int(senders)
	}
	if s.reached {
		number |= 1 << (small * (small + 2))
	}
	return number
}

// P7.12: every state that any steps of a few peers lead to.
func TestDroppingIsSafe(t *testing.T) {
	object := numbered(12)
	for n := 1; n <= small; n++ {
		may := newMayDrop(object, n)
		seen := make([]bool, 2<<(small*(small+2)))
		seen[swarm{}.number()] = true
		waiting := []swarm{{}}
		drops := 0
		for len(waiting) > 0 {
			s := waiting[len(waiting)-1]
			waiting = waiting[:len(waiting)-1]
			if !s.safe(n) {
				t.Fatal("too few peers hold their pieces", n, s)
			}
			states, count := s.next(n, may)
			drops += count
			for _, x := range states {
				if number := x.number(); !seen[number] {
					seen[number] = true
					waiting = append(waiting, x)
				}
			}
		}
		if (drops > 0) != (n < small) {
			t.Error("drops", n, drops)
		}
	}
}

// P7.12: random steps of 16 peers, which drop as soon as they may.
func TestDroppingIsSafeAtRandom(t *testing.T) {
	r := rand.New(rand.NewPCG(7, 12))
	for run := range 150 {
		object, n := numbered(run), 1+r.IntN(8)
		faults := r.IntN(2) * r.IntN(200) // of 1000 steps
		var holds, faulty [16]bool
		var sent [16][]int
		reached, drops, faultyPeers := false, 0, 0
		for range 1500 {
			peer, other := r.IntN(16), r.IntN(16)
			switch {
			case !holds[peer]:
				holds[peer] = r.IntN(4) == 0
			case r.IntN(1000) < faults:
				holds[peer] = false
				if !faulty[peer] {
					faulty[peer] = true
					faultyPeers++
				}
			case peer != other:
				sent[other] = append(sent[other], peer)
			}
			if holds[other] && place.Covered(object, other, n, sent[other]) {
				holds[other] = false
				drops++
				if r.IntN(2) == 0 {
					sent[other] = nil
				}
			}
			count := 0
			for _, has := range holds {
				if has {
					count++
				}
			}
			reached = reached || count >= n
			if reached && count < n-faultyPeers {
				t.Fatal("too few peers hold their pieces", n, count, faultyPeers)
			}
		}
		if !reached || drops == 0 {
			t.Error("nothing has happened", n, drops)
		}
	}
}

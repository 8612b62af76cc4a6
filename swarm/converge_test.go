package swarm_test

import (
	"slices"
	"testing"

	"stolon/api"
	"stolon/swarm"
)

// bound returns the Bound for what has happened.
func (h *history) bound() int {
	n := 0
	for _, o := range h.objects {
		n = max(n, o.m.N)
	}
	return swarm.Bound(h.setup.Peers, len(h.objects), n)
}

// canSettle reports whether some peer runs, and enough running peers have sound pieces of each object that is not deleted, as P10.11 supposes.
func (h *history) canSettle() bool {
	running := h.w.Running()
	held, graves := make(map[api.Digest]bool), make(map[api.Digest]bool)
	for _, i := range running {
		for _, r := range h.w.Records(i) {
			held[r.Object] = held[r.Object] || r.Held
			graves[r.Object] = graves[r.Object] || r.Kind == api.RecordGrave
		}
	}
	for id := range held {
		have := slices.DeleteFunc(h.holders(id), func(i int) bool { return !slices.Contains(running, i) })
		if held[id] && !graves[id] && len(have) < h.objects[id].m.K {
			return false
		}
	}
	return len(running) > 0
}

// disarm takes back what was armed, so that no peer loses its power in the rounds that follow.
func (h *history) disarm() {
	for i := range h.setup.Peers {
		h.w.Do(api.Event{Kind: api.EvArm, Peer: i, A: 1 << 40})
	}
}

// settle makes as many fair rounds as the Bound says, and returns after how many of them the swarm was settled for good.
func (h *history) settle() int {
	h.disarm()
	bound := h.bound()
	last := 0
	for round := range bound {
		h.do(api.Event{Kind: api.EvRound, Draw: h.r.Uint64()})
		if !h.w.Settled() {
			last = round + 1
		}
	}
	return last
}

// divide lets a part of the swarm be without contact to the other part for some rounds.
func (h *history) divide(rounds int) {
	part := h.r.IntN(1 << h.setup.Peers)
	for range rounds {
		old := h.w.Network()
		for _, i := range h.w.Running() {
			h.do(api.Event{Kind: api.EvTick, Peer: i, Draw: h.r.Uint64()})
		}
		for _, msg := range old {
			e := api.Event{Kind: api.EvDeliver}
			if (part>>msg.From^part>>msg.To)&1 != 0 {
				e.Kind = api.EvLose
			}
			h.do(e)
		}
	}
}

// startAll starts all peers that do not run.
func (h *history) startAll() {
	for i := range h.setup.Peers {
		h.do(api.Event{Kind: api.EvStart, Peer: i})
	}
}

// expectRestorable checks T2 in a settled swarm of which all peers run: what was acknowledged and never deleted can be restored anywhere, if not too many peers had a fault.
func (h *history) expectRestorable() {
	h.t.Helper()
	for number, id := range h.w.Objects() {
		o := h.objects[id]
		if o.deleted || !slices.Contains(h.w.Acknowledged(), id) || len(h.w.Faulty()) > o.m.N-o.m.K {
			continue
		}
		for i := range h.setup.Peers {
			before := len(h.w.Log())
			h.do(api.Event{Kind: api.EvRestore, Peer: i, A: number})
			for range 3 {
				h.do(api.Event{Kind: api.EvRound, Draw: h.r.Uint64()})
			}
			if l := h.w.Log(); len(l) != before+1 || l[before].Peer != i || l[before].Result.Code != api.OK || l[before].Result.Object != id {
				h.t.Fatal("a restore ends with", l[before:])
			}
			h.seen["restorable"]++
		}
	}
}

// P10.11, T2, T3: whatever has happened, fair rounds settle the swarm if enough pieces are left.
func TestConvergence(t *testing.T) {
	seen := parallel(t, 80, func(t *testing.T, seed uint64, seen map[string]int) {
		h := newHistory(t, seed)
		h.seen = seen
		for range 1 + h.r.IntN(4) {
			for range h.r.IntN(300) {
				h.do(h.anyEvent())
			}
			if h.r.IntN(3) == 0 {
				h.divide(h.r.IntN(100))
			}
		}
		all := h.r.IntN(2) == 0
		if all {
			h.startAll()
		}
		last := h.settle()
		h.expectDurable()
		if !h.canSettle() {
			seen["not enough pieces"]++
			return
		}
		if !h.w.Settled() {
			t.Error("not settled after", h.bound(), "rounds, with the seed", seed)
		}
		seen["settled"]++
		seen["rounds"] += last
		if all {
			h.expectRestorable()
		}
		h.expectRestored()
	})
	t.Log(seen)
	expectSeen(t, seen, map[string]int{
		"settled": 40, "rounds": 200, "restorable": 60, "restored": 100, "too few pieces": 8, "remembered": 100, "torn": 20,
		"kind 5": 120, "kind 7": 8, "kind 8": 250, "kind 9": 60, "kind 10": 100, "kind 11": 30, "kind 12": 15, "kind 13": 20,
	})
}

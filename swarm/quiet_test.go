package swarm_test

import (
	"slices"
	"testing"

	"stolon/api"
	"stolon/member"
)

// allSound reports whether all held pieces of running peers are sound.
func (h *history) allSound() bool {
	for _, i := range h.w.Running() {
		for _, id := range h.w.Held(i) {
			if !h.disks[i].sound[id] {
				return false
			}
		}
	}
	return true
}

// allLive reports whether exactly the running peers are live in every running peer.
func (h *history) allLive() bool {
	running := h.w.Running()
	for _, i := range running {
		if !slices.Equal(member.Live(h.w.Table(i)), running) {
			return false
		}
	}
	return true
}

// quietEvent returns an event that P10.12 speaks of.
func (h *history) quietEvent(losses int) api.Event {
	e := api.Event{Kind: api.EvDeliver, Peer: h.r.IntN(h.setup.Peers), A: h.r.IntN(1 << 16), Draw: h.r.Uint64()}
	switch n := h.r.IntN(100); {
	case n < losses:
		e.Kind = api.EvLose
	case n < 15:
		e.Kind = api.EvCopy
	case n < 30:
		e.Kind = api.EvTick
	case n < 35:
		e.Kind = api.EvRound
	}
	return e
}

// P10.12: in a settled swarm no piece is stored, dropped or sent any more, as long as nobody is taken for dead.
func TestQuiescence(t *testing.T) {
	seen := parallel(t, 96, func(t *testing.T, seed uint64, seen map[string]int) {
		h := newHistory(t, seed)
		h.seen = seen
		for range 400 {
			h.do(h.anyEvent())
		}
		h.disarm()
		for range h.bound() {
			if h.w.Settled() {
				break
			}
			h.do(api.Event{Kind: api.EvRound, Draw: h.r.Uint64()})
		}
		if !h.w.Settled() || !h.allSound() {
			return
		}
		h.expectQuiet()
	})
	t.Log(seen)
	expectSeen(t, seen, map[string]int{"quiet": 15000})
}

// expectQuiet checks that a settled swarm remains as it is.
func (h *history) expectQuiet() {
	h.t.Helper()
	losses := h.r.IntN(12)
	held := make([][]api.Digest, h.setup.Peers)
	pieces := 0
	for i := range held {
		held[i] = h.w.Held(i)
		pieces += len(held[i])
	}
	for range 600 {
		h.do(h.quietEvent(losses))
		if !h.allLive() {
			h.seen["taken for dead"]++
			return
		}
		for i := range held {
			if !slices.Equal(h.w.Held(i), held[i]) {
				h.t.Fatal("peer", i, "holds", h.w.Held(i), "instead of", held[i])
			}
		}
		for _, msg := range h.w.Network() {
			if msg.Kind >= 6 {
				h.t.Fatal("a message is sent", msg)
			}
		}
		if pieces > 0 {
			h.seen["quiet"]++
		}
	}
}

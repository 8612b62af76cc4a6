package swarm_test

import (
	"bytes"
	"slices"
	"testing"

	"stolon/api"
	"stolon/swarm"
)

// acting returns the peer that an event calls, or -1 if it calls none, or several ones.
func (h *history) acting(e api.Event) int {
	switch e.Kind {
	case api.EvTick, api.EvBackup, api.EvRestore, api.EvDelete, api.EvLeave:
		return e.Peer
	case api.EvDeliver, api.EvCopy:
		if l := h.w.Network(); len(l) > 0 {
			return l[e.A%len(l)].To
		}
	}
	return -1
}

// replayed returns the world in which the events of a history have happened.
func (h *history) replayed() *swarm.World {
	h.t.Helper()
	script, e := swarm.Script(h.setup, h.script)
	if e != api.OK {
		h.t.Fatal("Script", e)
	}
	w, e := swarm.Play(script)
	if e != api.OK {
		h.t.Fatal("Play", e)
	}
	return w
}

// crashIn lets an event of a peer happen, but its power is lost in it, as armed. It returns what the peer has when it starts again, and false if the power is not lost.
func (h *history) crashIn(e api.Event, i, after, keep int) (memory, bool) {
	h.t.Helper()
	w := h.replayed()
	if !w.Do(api.Event{Kind: api.EvArm, Peer: i, A: after, B: keep}) || !w.Do(e) {
		h.t.Fatal("an event does not apply", e)
	}
	if slices.Contains(w.Running(), i) {
		return memory{}, false
	}
	if len(w.Held(i)) != 0 || w.Incarnation(i) != 0 || !w.Do(api.Event{Kind: api.EvStart, Peer: i}) {
		h.t.Fatal("after a loss of power peer", i, "is not down")
	}
	return memoryOf(w, i, h.read(i, w.Image(i))), true
}

// expectBetween checks that of each object that is in some of the lists, what is now the case is what was before or would have been after. It reports whether something has changed.
func expectBetween(t *testing.T, before, after, now []api.Digest) bool {
	t.Helper()
	for _, id := range slices.Concat(before, after, now) {
		was, would, is := slices.Contains(before, id), slices.Contains(after, id), slices.Contains(now, id)
		if is != was && is != would {
			t.Fatal("after a loss of power there is", now, "before it there was", before, "and without it", after)
		}
	}
	return !slices.Equal(before, now)
}

// expectCrashes lets the power be lost at each write of an event of a peer, after some numbers of bytes.
func (h *history) expectCrashes(e api.Event, i int) {
	h.t.Helper()
	h.note(e)
	whole := h.replayed()
	whole.Do(e)
	if bytes.Equal(whole.Image(i), h.w.Image(i)) {
		return // nothing is written
	}
	before, after := h.peers[i], memoryOf(whole, i, h.read(i, whole.Image(i)))
	for write := 0; ; write++ {
		for _, keep := range []int{0, 1, 30, 60, 127, 128} {
			now, lost := h.crashIn(e, i, write, keep)
			if !lost {
				return
			}
			changed := expectBetween(h.t, before.held, after.held, now.held)
			buried := expectBetween(h.t, before.graves, after.graves, now.graves)
			if now.inc <= before.inc {
				h.t.Fatal("the incarnation was", before.inc, "and is", now.inc)
			}
			if changed || buried {
				h.seen["whole"]++
			} else {
				h.seen["nothing"]++
			}
		}
	}
}

// P10.13, T5: wherever the power is lost in a call, the change that was interrupted has had its whole effect or none.
func TestCrashes(t *testing.T) {
	seen := parallel(t, 64, func(t *testing.T, seed uint64, seen map[string]int) {
		h := newHistory(t, seed)
		h.seen = seen
		if seed%2 == 0 {
			h.narrow() // the journal is often rewritten
		}
		h.weights[api.EvArm], h.weights[api.EvRot], h.weights[api.EvWipe] = 0, 0, 0
		h.weights[api.EvDelete] += 5
		for range 250 {
			e := h.anyEvent()
			i := h.acting(e)
			if i >= 0 && slices.Contains(h.w.Running(), i) && h.r.IntN(4) == 0 {
				h.expectCrashes(e, i)
			}
			h.do(e)
		}
	})
	t.Log(seen)
	expectSeen(t, seen, map[string]int{"whole": 40, "nothing": 250})
}

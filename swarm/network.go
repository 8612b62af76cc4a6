package swarm

import (
	"slices"

	"stolon/api"
	"stolon/wire"
)

// collect sends what a call of a peer has returned, and adds the peer's results to the log.
func (w *World) collect(i int, messages []api.Message) {
	for _, msg := range messages {
		frame, _ := wire.Encode(msg) // peers send valid messages
		w.network = append(w.network, frame)
	}
	for _, r := range w.peerOf(i).Results() {
		w.log = append(w.log, api.Outcome{Peer: i, Result: r})
	}
}

// deliver passes a message to its receiver, if this runs.
func (w *World) deliver(frame []byte) {
	msg, _ := wire.Decode(frame) // what was encoded can be decoded
	answers, e := w.peerOf(msg.To).Receive(msg)
	if e == api.OK {
		w.collect(msg.To, answers)
	}
}

// placeOf returns the place of the message that an event chooses.
func (w *World) placeOf(e api.Event) int { return modulo(e.A, len(w.network)) }

// takeOne takes the message that an event chooses out of the network.
func (w *World) takeOne(e api.Event) []byte {
	at := w.placeOf(e)
	frame := w.network[at]
	w.network = slices.Delete(w.network, at, at+1)
	return frame
}

// deliverOne delivers a message.
func (w *World) deliverOne(e api.Event) bool {
	w.deliver(w.takeOne(e))
	return true
}

// loseOne loses a message.
func (w *World) loseOne(e api.Event) bool {
	w.takeOne(e)
	return true
}

// copyOne delivers a message that stays in the network.
func (w *World) copyOne(e api.Event) bool {
	w.deliver(w.network[w.placeOf(e)])
	return true
}

// What makes the next number of the sequence that orders the deliveries of a fair round; the numbers wrap around.
const (
	orderFactor  = 6364136223846793005
	orderSummand = 1442695040888963407
)

// round lets all running peers tick, and then delivers all messages that were under way before.
func (w *World) round(e api.Event) bool {
	old := w.network
	w.network = nil
	for i := range w.sites {
		if w.isRunning(i) {
			w.tick(api.Event{Peer: i, Draw: e.Draw})
		}
	}
	for x := e.Draw; len(old) > 0; x = x*orderFactor + orderSummand {
		at := int(x % uint64(len(old)))
		frame := old[at]
		old = slices.Delete(old, at, at+1)
		w.deliver(frame)
	}
	return true
}

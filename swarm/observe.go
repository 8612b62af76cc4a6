package swarm

import (
	"bytes"
	"slices"

	"stolon/api"
	"stolon/wire"
)

// Network returns the messages under way.
func (w *World) Network() []api.Message {
	if w == nil {
		return nil
	}
	var messages []api.Message
	for _, frame := range w.network {
		msg, _ := wire.Decode(frame) // what was encoded can be decoded
		messages = append(messages, msg)
	}
	return messages
}

// Running returns the peers that run.
func (w *World) Running() []int { return filtered(w.everyone(), w.isRunning) }

// Faulty returns the peers that had a fault.
func (w *World) Faulty() []int {
	return filtered(w.everyone(), func(i int) bool { return w.sites[i].faulty })
}

// everyone returns all peers, in ascending order.
func (w *World) everyone() []int {
	if w == nil {
		return nil
	}
	peers := make([]int, len(w.sites))
	for i := range peers {
		peers[i] = i
	}
	return peers
}

// filtered returns the peers of a list that have a property.
func filtered(peers []int, has func(i int) bool) []int {
	return slices.DeleteFunc(slices.Clone(peers), func(i int) bool { return !has(i) })
}

// Table returns the table of a peer.
func (w *World) Table(i int) []api.Member { return w.peerOf(i).Table() }

// Records returns the records of a peer's inventory.
func (w *World) Records(i int) []api.Record { return w.peerOf(i).Records() }

// Held returns the objects of which a peer holds its piece.
func (w *World) Held(i int) []api.Digest { return w.peerOf(i).Held() }

// Incarnation returns the incarnation of a peer.
func (w *World) Incarnation(i int) uint64 { return w.peerOf(i).Incarnation() }

// Status returns what a peer knows about an object.
func (w *World) Status(i int, object api.Digest) api.ObjectStatus {
	return w.peerOf(i).Status(object)
}

// Image returns the bytes of a peer's disk.
func (w *World) Image(i int) []byte {
	if !w.has(i) {
		return nil
	}
	return w.sites[i].disk.Image()
}

// Objects returns the objects that backups have returned.
func (w *World) Objects() []api.Digest {
	if w == nil {
		return nil
	}
	return slices.Clone(w.objects)
}

// Log returns the outcomes of all operations that have ended.
func (w *World) Log() []api.Outcome {
	if w == nil {
		return nil
	}
	log := slices.Clone(w.log)
	for i := range log {
		log[i].Result.Data = bytes.Clone(log[i].Result.Data)
	}
	return log
}

// Acknowledged returns the objects that were backed up with success.
func (w *World) Acknowledged() []api.Digest {
	if w == nil {
		return nil
	}
	acknowledged := make(map[api.Digest]bool)
	for _, o := range w.log {
		if o.Result.Kind == api.OpBackup && o.Result.Code == api.OK {
			acknowledged[o.Result.Object] = true
		}
	}
	return slices.DeleteFunc(w.Objects(), func(object api.Digest) bool { return !acknowledged[object] })
}

// Applied returns the number of events that have applied.
func (w *World) Applied() uint64 {
	if w == nil {
		return 0
	}
	return w.applied.Load()
}

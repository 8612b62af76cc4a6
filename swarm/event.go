package swarm

import (
	"slices"

	"stolon/api"
	"stolon/peer"
)

// rule is what the events of a kind do.
type rule struct {
	applies func(w *World, e api.Event) bool // whether an event applies, as far as that shows before it happens
	happen  func(w *World, e api.Event) bool // lets it happen; false if it turns out not to apply: then nothing has changed
}

// rules returns the rule of each kind of events.
func rules() map[api.EventKind]rule {
	return map[api.EventKind]rule{
		api.EvTick:    {(*World).runs, (*World).tick},
		api.EvDeliver: {(*World).isUnderWay, (*World).deliverOne},
		api.EvLose:    {(*World).isUnderWay, (*World).loseOne},
		api.EvCopy:    {(*World).isUnderWay, (*World).copyOne},
		api.EvBackup:  {(*World).runs, (*World).backup},
		api.EvRestore: {(*World).runs, withObject((*World).restore)},
		api.EvDelete:  {(*World).runs, withObject((*World).remove)},
		api.EvStart:   {(*World).rests, (*World).start},
		api.EvCrash:   {(*World).runs, (*World).crash},
		api.EvArm:     {(*World).runs, (*World).arm},
		api.EvWipe:    {(*World).rests, (*World).wipe},
		api.EvRot:     {(*World).runs, withObject((*World).rot)},
		api.EvLeave:   {(*World).runs, (*World).leave},
		api.EvRound:   {func(*World, api.Event) bool { return true }, (*World).round},
	}
}

// Do lets an event happen and reports whether it applies.
func (w *World) Do(e api.Event) bool {
	if w == nil {
		return false
	}
	r, found := rules()[e.Kind]
	if !found || !r.applies(w, e) || !r.happen(w, e) {
		return false
	}
	w.applied.Add(1)
	return true
}

// runs reports whether the peer of an event runs.
func (w *World) runs(e api.Event) bool { return w.isRunning(e.Peer) }

// rests reports whether there is the peer of an event, and does not run.
func (w *World) rests(e api.Event) bool { return w.has(e.Peer) && !w.isRunning(e.Peer) }

// isUnderWay reports whether there is a message.
func (w *World) isUnderWay(api.Event) bool { return len(w.network) > 0 }

// withObject lets an event that chooses an object happen, if there are objects.
func withObject(happen func(w *World, e api.Event, object api.Digest) bool) func(*World, api.Event) bool {
	return func(w *World, e api.Event) bool {
		return len(w.objects) > 0 && happen(w, e, w.objects[modulo(e.A, len(w.objects))])
	}
}

// modulo returns a modulo n, which is not below 0 even if a is.
func modulo(a, n int) int { return (a%n + n) % n }

// tick lets a peer tick.
func (w *World) tick(e api.Event) bool {
	messages, _ := w.peerOf(e.Peer).Tick(e.Draw)
	w.collect(e.Peer, messages)
	return true
}

// backup lets a peer back up an object. It is an object of the world from then on.
func (w *World) backup(e api.Event) bool {
	_, object, messages, code := w.peerOf(e.Peer).Backup(e.A, e.B, e.Data)
	if code == api.ErrDown {
		return true
	}
	if code != api.OK {
		return false
	}
	if !slices.Contains(w.objects, object) {
		w.objects = append(w.objects, object)
	}
	w.collect(e.Peer, messages)
	return true
}

// restore lets a peer restore an object.
func (w *World) restore(e api.Event, object api.Digest) bool {
	_, messages, _ := w.peerOf(e.Peer).Restore(object)
	w.collect(e.Peer, messages)
	return true
}

// remove lets a peer delete an object.
func (w *World) remove(e api.Event, object api.Digest) bool {
	w.peerOf(e.Peer).Delete(object)
	w.collect(e.Peer, nil)
	return true
}

// start starts a peer.
func (w *World) start(e api.Event) bool {
	home := &w.sites[e.Peer]
	home.disk.PowerOn()
	home.peer, _ = peer.Start(api.Config{Self: e.Peer, Peers: len(w.sites), Quota: w.quota}, home.disk)
	return true
}

// crash takes the power of a peer's disk away.
func (w *World) crash(e api.Event) bool {
	w.sites[e.Peer].disk.PowerOff()
	return true
}

// arm prepares a loss of power of a peer's disk.
func (w *World) arm(e api.Event) bool {
	return w.sites[e.Peer].disk.Arm(e.A, e.B) == api.OK
}

// wipe wipes a peer's disk.
func (w *World) wipe(e api.Event) bool {
	home := &w.sites[e.Peer]
	home.disk.Wipe()
	home.peer = nil
	home.faulty = true
	return true
}

// rot changes a byte of the record of a peer's piece of an object, if it holds one and the byte becomes another one.
func (w *World) rot(e api.Event, object api.Digest) bool {
	first, blocks, code := w.peerOf(e.Peer).Where(object)
	mask := byte(e.Draw)
	if code != api.OK || mask == 0 {
		return false
	}
	at := modulo(e.B, blocks*api.BlockSize)
	home := &w.sites[e.Peer]
	home.disk.Rot(first+at/api.BlockSize, at%api.BlockSize, mask)
	home.faulty = true
	return true
}

// leave lets a peer leave the swarm.
func (w *World) leave(e api.Event) bool {
	messages, _ := w.peerOf(e.Peer).Leave()
	w.collect(e.Peer, messages)
	return true
}

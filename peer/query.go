package peer

import (
	"cmp"
	"slices"

	"stolon/api"
)

// Status returns what the peer knows about an object.
func (p *Peer) Status(object api.Digest) api.ObjectStatus {
	if p.isDown() {
		return api.ObjectStatus{}
	}
	s := api.ObjectStatus{Held: p.store.Holds(object), Buried: p.isDeleted(object), Holders: p.inventory.Holders(object)}
	s.K, s.N = p.inventory.Demand(object)
	live := p.machine.Live()
	for _, holder := range s.Holders {
		if slices.Contains(live, holder) {
			s.Live++
		}
	}
	return s
}

// Running reports whether the peer is neither down nor has left.
func (p *Peer) Running() bool { return p.check() == api.OK }

// Incarnation returns the incarnation.
func (p *Peer) Incarnation() uint64 {
	if p == nil {
		return 0
	}
	return p.store.Incarnation()
}

// Table returns the table of peers.
func (p *Peer) Table() []api.Member {
	if p.isDown() {
		return nil
	}
	return p.machine.Table()
}

// Records returns the records of the inventory.
func (p *Peer) Records() []api.Record {
	if p.isDown() {
		return nil
	}
	return p.inventory.Records()
}

// Held returns the held objects.
func (p *Peer) Held() []api.Digest {
	if p.isDown() {
		return nil
	}
	return p.store.Held()
}

// Builds returns the objects that have a build.
func (p *Peer) Builds() []api.Digest {
	if p.isDown() {
		return nil
	}
	return sortedKeys(p.builds, compareObjects)
}

// Sheds returns the objects that have a shed.
func (p *Peer) Sheds() []api.Digest {
	if p.isDown() {
		return nil
	}
	return sortedKeys(p.sheds, compareObjects)
}

// Pending returns the tickets of the operations that have not ended.
func (p *Peer) Pending() []uint64 {
	if p.isDown() {
		return nil
	}
	return sortedKeys(p.operations, cmp.Compare[uint64])
}

// Where returns the first block and the number of blocks of the record of the peer's piece.
func (p *Peer) Where(object api.Digest) (int, int, api.Errno) {
	if p == nil {
		return 0, 0, api.ErrNil
	}
	return p.store.Where(object)
}

package peer

import (
	"stolon/api"
	"stolon/digest"
	"stolon/place"
)

// Backup begins to store an object.
func (p *Peer) Backup(k, n int, data []byte) (uint64, api.Digest, []api.Message, api.Errno) {
	if e := p.check(); e != api.OK {
		return 0, api.Digest{}, nil, e
	}
	m, pieces, e := digest.Make(p.field, k, n, p.config.Peers, data)
	if e != api.OK {
		return 0, api.Digest{}, nil, e
	}
	live := p.machine.Live()
	if len(live) < n {
		return 0, api.Digest{}, nil, api.ErrLive
	}
	object, _ := digest.ID(m)
	if p.isDeleted(object) {
		return 0, api.Digest{}, nil, api.ErrGone
	}
	o := p.begin(api.OpBackup, object)
	o.manifest, o.pieces = m, pieces
	messages := p.spread(o, place.Chosen(object, live, n))
	p.settle()
	messages, e = p.sent(messages)
	if e != api.OK {
		return 0, api.Digest{}, nil, e
	}
	return o.Ticket, object, messages, api.OK
}

// spread lets the chosen peers store their pieces of a backup, the Peer itself first if it is one of them.
func (p *Peer) spread(o *operation, chosen []int) []api.Message {
	o.expect(chosen)
	if self := p.config.Self; o.waiting[self] {
		if e := p.put(o.Object, o.manifest, o.pieces[self]); e != api.OK {
			p.end(o, e, nil)
			return nil
		}
		o.waiting[self] = false
	}
	if o.isOver() {
		p.end(o, api.OK, nil)
	}
	return p.requests(o, chosen)
}

// Restore begins to fetch an object.
func (p *Peer) Restore(object api.Digest) (uint64, []api.Message, api.Errno) {
	if e := p.check(); e != api.OK {
		return 0, nil, e
	}
	if p.isDeleted(object) {
		return 0, nil, api.ErrGone
	}
	o := p.begin(api.OpRestore, object)
	messages := p.search(o)
	p.settle()
	messages, e := p.sent(messages)
	if e != api.OK {
		return 0, nil, e
	}
	return o.Ticket, messages, api.OK
}

// search asks the other holders for their pieces, unless the own one is enough for the restore.
func (p *Peer) search(o *operation) []api.Message {
	o.gather = place.NewGather(o.Object)
	if m, piece, e := p.store.Get(o.Object); e == api.OK {
		o.gather.Offer(m, piece)
	}
	sources := place.Sources(p.config.Self, p.inventory.Holders(o.Object), p.machine.Live())
	o.expect(sources)
	if o.isOver() {
		p.endRestore(o)
		return nil
	}
	return p.requests(o, sources)
}

// Delete makes an object deleted.
func (p *Peer) Delete(object api.Digest) api.Errno {
	if e := p.check(); e != api.OK {
		return e
	}
	if !p.isDeleted(object) && !p.store.Holds(object) && len(p.inventory.Holders(object)) == 0 {
		return api.ErrNone
	}
	if e := p.store.Bury(object); e != api.OK {
		return e
	}
	p.merge(graveOf(object))
	p.settle()
	_, e := p.sent(nil)
	return e
}

// Leave leaves the swarm.
func (p *Peer) Leave() ([]api.Message, api.Errno) {
	if e := p.check(); e != api.OK {
		return nil, e
	}
	for _, o := range p.pending() {
		p.end(o, api.ErrState, nil)
	}
	clear(p.builds)
	clear(p.sheds)
	p.left = true
	return p.machine.Leave(), api.OK
}

// Results returns the results of the operations that have ended, and forgets them.
func (p *Peer) Results() []api.Result {
	if p.isDown() {
		return nil
	}
	results := p.results
	p.results = nil
	return results
}

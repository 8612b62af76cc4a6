package peer

import (
	"stolon/api"
	"stolon/digest"
	"stolon/place"
	"stolon/wire"
)

// Receive takes a message.
func (p *Peer) Receive(msg api.Message) ([]api.Message, api.Errno) {
	if e := p.check(); e != api.OK {
		return nil, e
	}
	if wire.Check(msg) != api.OK || msg.To != p.config.Self || msg.From >= p.config.Peers {
		return nil, api.ErrArg
	}
	answers, e := p.take(msg)
	if e != api.OK {
		return nil, e
	}
	p.settle()
	return p.sent(answers)
}

// take does what the kind of a message asks for.
func (p *Peer) take(msg api.Message) ([]api.Message, api.Errno) {
	var answers []api.Message
	switch msg.Kind {
	case api.KindPing, api.KindAck, api.KindPingReq:
		return p.machine.Receive(msg)
	case api.KindSum, api.KindItems:
		return p.inventory.Reply(msg)
	case api.KindClaim:
		p.claims.Note(msg.Object, msg.From, p.machine.Clock())
	case api.KindFetch:
		answers = p.takeFetch(msg)
	case api.KindOffer:
		p.takeOffer(msg)
	case api.KindLack:
		p.takeAnswer(msg, func(*place.Gather) {})
	case api.KindInstall:
		answers = p.takeInstall(msg)
	case api.KindStored:
		p.takeStored(msg)
	case api.KindAsk:
		answers = p.takeAsk(msg)
	case api.KindKeep:
		p.takeKeep(msg)
	}
	return answers, api.OK
}

// takeFetch answers with the own piece, if there is one.
func (p *Peer) takeFetch(msg api.Message) []api.Message {
	answer := p.message(api.KindLack, msg.From, msg.Object)
	if m, piece, e := p.store.Get(msg.Object); e == api.OK {
		answer.Kind, answer.Manifest, answer.Piece = api.KindOffer, m, piece
	}
	return []api.Message{answer}
}

// takeOffer gives a piece to all who collect pieces of the object.
func (p *Peer) takeOffer(msg api.Message) {
	p.takeAnswer(msg, func(g *place.Gather) {
		// An object with another number of pieces was not made by a peer of this swarm.
		if msg.Manifest.Total == p.config.Peers {
			g.Offer(msg.Manifest, msg.Piece)
		}
	})
}

// takeAnswer lets an answer count for the build and the restores of the object, to whose Gathers it is offered, and ends those that are over.
func (p *Peer) takeAnswer(msg api.Message, offer func(g *place.Gather)) {
	answer := func(t *task) (over bool) {
		offer(t.gather)
		t.waiting[msg.From] = false
		return t.isOver()
	}
	if b := p.builds[msg.Object]; b != nil && answer(b) {
		p.endBuild(msg.Object)
	}
	for _, o := range p.pendingOn(api.OpRestore, msg.Object) {
		if answer(&o.task) {
			p.endRestore(o)
		}
	}
}

// endBuild ends the build of an object, and stores the own piece if the collected ones determine it.
func (p *Peer) endBuild(object api.Digest) {
	g := p.builds[object].gather
	delete(p.builds, object)
	if piece, e := g.Piece(p.field, p.config.Self); e == api.OK {
		m, _ := g.Manifest()
		p.store.Put(m, piece) // if that fails, a later build tries again
	}
}

// takeInstall stores the own piece for another peer.
func (p *Peer) takeInstall(msg api.Message) []api.Message {
	answer := p.message(api.KindStored, msg.From, msg.Object)
	answer.Code = p.install(msg)
	return []api.Message{answer}
}

// install puts the piece of a message, if it is the own one of the object.
func (p *Peer) install(msg api.Message) api.Errno {
	if msg.Piece.Index != p.config.Self || msg.Manifest.Total != p.config.Peers {
		return api.ErrArg
	}
	if id, _ := digest.ID(msg.Manifest); id != msg.Object {
		return api.ErrSum
	}
	return p.put(msg.Object, msg.Manifest, msg.Piece)
}

// takeStored lets the result of an install count for the backups of the object.
func (p *Peer) takeStored(msg api.Message) {
	for _, o := range p.pendingOn(api.OpBackup, msg.Object) {
		if !o.waiting[msg.From] {
			continue
		}
		o.waiting[msg.From] = msg.Code != api.OK
		if msg.Code != api.OK || o.isOver() {
			p.end(o, msg.Code, nil)
		}
	}
}

// takeAsk answers if there is an own piece.
func (p *Peer) takeAsk(msg api.Message) []api.Message {
	// That it is held is not enough: the asker may drop its piece because of this answer.
	if _, _, e := p.store.Get(msg.Object); e != api.OK {
		return nil
	}
	return []api.Message{p.message(api.KindKeep, msg.From, msg.Object)}
}

// takeKeep drops the own piece if enough better peers have said that they keep theirs.
func (p *Peer) takeKeep(msg api.Message) {
	s := p.sheds[msg.Object]
	if s == nil {
		return
	}
	s.keeps[msg.From] = true
	if place.Covered(msg.Object, p.config.Self, p.said[msg.Object].N, s.keeps.list()) {
		delete(p.sheds, msg.Object)
		p.store.Drop(msg.Object) // if that fails, a later shed tries again
	}
}

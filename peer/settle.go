package peer

import (
	"maps"
	"slices"

	"stolon/api"
)

// settle brings the store, the incarnation and the inventory into agreement.
func (p *Peer) settle() {
	for _, step := range []func(*Peer){(*Peer).obeyGraves, (*Peer).answerChallenge, (*Peer).announce} {
		step(p)
	}
}

// obeyGraves buries what is deleted, and ends the tasks and operations on it.
func (p *Peer) obeyGraves() {
	for _, grave := range p.inventory.Range([]byte{byte(api.RecordGrave)}, []byte{byte(api.RecordPiece)}) {
		p.store.Bury(grave.Object) // of no effect if it is buried already; after an error the next settling tries again
		delete(p.builds, grave.Object)
		delete(p.sheds, grave.Object)
	}
	for _, o := range p.pending() {
		if p.inventory.Buried(o.Object) {
			p.end(o, api.ErrGone, nil)
		}
	}
}

// answerChallenge lets the Peer be born again if others know of claims about it that it did not make in its incarnation.
func (p *Peer) answerChallenge() {
	challenge := p.challenge()
	if challenge == 0 || p.store.Raise(challenge) != api.OK {
		return
	}
	p.machine.Reincarnate(p.store.Incarnation()) // which is greater than all that the machine knows of the Peer
	p.number = 0
	clear(p.said)
	p.mergeBase()
}

// challenge returns the incarnation that the Peer must exceed, or 0.
func (p *Peer) challenge() uint64 {
	challenge := p.machine.Challenge()
	if base := p.inventory.Base(p.config.Self); base > p.store.Incarnation() {
		challenge = max(challenge, base)
	}
	for _, r := range p.inventory.Range([]byte{byte(api.RecordPiece)}, nil) {
		if r.Holder == p.config.Self && r != p.said[r.Object] {
			challenge = max(challenge, r.Inc)
		}
	}
	return challenge
}

// announce makes a record of each object that is held and was not said to be, or the other way round.
func (p *Peer) announce() {
	for _, object := range ascending(p.store.Held(), slices.Collect(maps.Keys(p.said))) {
		last := p.said[object] // not Held if there is none
		switch held := p.store.Holds(object); {
		case held && !last.Held:
			// A piece that is damaged can not help others, and is not held any more now.
			if m, _, e := p.store.Get(object); e == api.OK {
				p.say(object, true, m.K, m.N)
			}
		case !held && last.Held:
			p.say(object, false, last.K, last.N)
		}
	}
}

// say makes a new record about the own piece of an object.
func (p *Peer) say(object api.Digest, held bool, k, n int) {
	p.number++
	r := api.Record{
		Kind: api.RecordPiece, Object: object, Holder: p.config.Self, Inc: p.store.Incarnation(), Num: p.number,
		Held: held, K: k, N: n,
	}
	p.said[object] = r
	p.merge(r)
}

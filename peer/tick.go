package peer

import (
	"slices"

	"stolon/api"
	"stolon/place"
)

// Tick lets one unit of time pass.
func (p *Peer) Tick(draw uint64) ([]api.Message, api.Errno) {
	if e := p.check(); e != api.OK {
		return nil, e
	}
	messages := p.machine.Tick(draw)
	p.store.Scrub(1)
	p.claims.Sweep(p.machine.Clock())
	p.settle()
	messages = append(messages, p.doDuties()...)
	messages = append(messages, p.goOn()...)
	messages = append(messages, p.synchronize()...)
	return p.sent(messages)
}

// age returns the number of ticks since a clock.
func (p *Peer) age(began uint64) uint64 { return p.machine.Clock() - began }

// doDuties begins and ends builds and sheds.
func (p *Peer) doDuties() []api.Message {
	objects := ascending(p.store.Held(), p.inventory.Objects())
	keepOnly(p.builds, objects)
	keepOnly(p.sheds, objects)
	var messages []api.Message
	for _, object := range objects {
		messages = append(messages, p.doDuty(object)...)
	}
	return messages
}

// keepOnly deletes the tasks of all objects but some.
func keepOnly[V any](tasks map[api.Digest]V, objects []api.Digest) {
	for object := range tasks {
		if !slices.Contains(objects, object) {
			delete(tasks, object)
		}
	}
}

// doDuty begins and ends the build and the shed of an object.
func (p *Peer) doDuty(object api.Digest) []api.Message {
	_, n := p.inventory.Demand(object)
	held := p.store.Holds(object)
	if held {
		n = p.said[object].N
	}
	live := p.machine.Live()
	duty := place.Duty(object, p.config.Self, live, n, held, p.inventory.Buried(object))
	if b := p.builds[object]; b != nil && (duty != api.DutyBuild || p.age(b.began) >= api.BuildTicks) {
		delete(p.builds, object)
	}
	if s := p.sheds[object]; s != nil && (duty != api.DutyShed || p.age(s.began) >= api.ShedTicks) {
		delete(p.sheds, object)
	}
	switch {
	case duty == api.DutyBuild && p.builds[object] == nil && p.mayBuild(object):
		return p.beginBuild(object, n)
	case duty == api.DutyShed && p.sheds[object] == nil:
		p.sheds[object] = &shed{began: p.machine.Clock()}
		return p.toOthers(api.KindAsk, place.Chosen(object, live, n), object)
	}
	return nil
}

// mayBuild reports whether it is time to build the own piece: the last build began long ago, and no better peer goes first.
func (p *Peer) mayBuild(object api.Digest) bool {
	if last, found := p.lastBuild[object]; found && p.age(last) < api.BuildEvery {
		return false
	}
	return !p.claims.Blocked(object, p.config.Self, p.machine.Clock(), p.machine.Live(), p.inventory.Holders(object))
}

// beginBuild begins the build of an object of which n pieces are wanted, if there are peers that can help.
func (p *Peer) beginBuild(object api.Digest, n int) []api.Message {
	live := p.machine.Live()
	sources := place.Sources(p.config.Self, p.inventory.Holders(object), live)
	if len(sources) == 0 {
		return nil
	}
	b := &task{began: p.machine.Clock(), gather: place.NewGather(object)}
	b.expect(sources)
	p.builds[object] = b
	p.lastBuild[object] = b.began
	claims := p.toOthers(api.KindClaim, place.Chosen(object, live, n), object)
	return append(claims, p.toOthers(api.KindFetch, sources, object)...)
}

// goOn ends the operations that take too long, and repeats the requests of others from time to time.
func (p *Peer) goOn() []api.Message {
	var messages []api.Message
	for _, o := range p.pending() {
		switch age := p.age(o.began); { // at least 1, as operations do not begin in a Tick
		case age >= api.OpTicks:
			p.end(o, api.ErrTimeout, nil)
		case age%api.ResendTicks == 0:
			messages = append(messages, p.requests(o, o.waiting.list())...)
		}
	}
	return messages
}

// synchronize returns a summary of the inventory to the next live peer, if there is one.
func (p *Peer) synchronize() []api.Message {
	live := p.machine.Live()
	for i := range p.config.Peers {
		next := (p.partner + 1 + i) % p.config.Peers
		if next != p.config.Self && slices.Contains(live, next) {
			p.partner = next
			sum := p.inventory.Summary(nil, nil)
			sum.From, sum.To = p.config.Self, next
			return []api.Message{sum}
		}
	}
	return nil
}

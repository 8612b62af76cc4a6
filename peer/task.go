package peer

import (
	"cmp"
	"slices"

	"stolon/api"
	"stolon/place"
	"stolon/wire"
)

// peerSet says of each peer whether it belongs to a set.
type peerSet [api.MaxPeers]bool

// list returns the peers of a set in ascending order.
func (s peerSet) list() []int {
	var peers []int
	for peer := range len(s) {
		if s[peer] {
			peers = append(peers, peer)
		}
	}
	return peers
}

// task is what a build, a backup and a restore have in common.
type task struct {
	began   uint64        // the clock at which it began
	waiting peerSet       // the peers that have not answered yet
	gather  *place.Gather // what a build or a restore collects; nil for a backup
}

// isOver reports whether there are enough pieces, or nobody is left who could answer.
func (t *task) isOver() bool { return t.gather.Ready() || t.waiting == peerSet{} }

// expect makes peers those that have not answered yet.
func (t *task) expect(peers []int) {
	for _, peer := range peers {
		t.waiting[peer] = true
	}
}

// shed is the question to other peers whether the own piece may be dropped.
type shed struct {
	began uint64  // the clock at which it began
	keeps peerSet // the peers from which a Keep has come
}

// operation is what the Peer does for a client.
type operation struct {
	api.Result // its Code and Data are known at the end alone
	task
	manifest api.Manifest // of a backup
	pieces   []api.Piece  // of a backup
}

// begin begins an operation.
func (p *Peer) begin(kind api.OpKind, object api.Digest) *operation {
	p.ticket++
	o := &operation{
		Result: api.Result{Ticket: p.ticket, Kind: kind, Object: object},
		task:   task{began: p.machine.Clock()},
	}
	p.operations[o.Ticket] = o
	return o
}

// end ends an operation with a code, and with the data of a restore that has succeeded.
func (p *Peer) end(o *operation, code api.Errno, data []byte) {
	o.Code, o.Data = code, data
	p.results = append(p.results, o.Result)
	delete(p.operations, o.Ticket)
}

// endRestore ends a restore with what its pieces determine: an error if they are too few.
func (p *Peer) endRestore(o *operation) {
	data, e := o.gather.Data(p.field)
	p.end(o, e, data)
}

// pending returns the operations that have not ended, in the order of their tickets.
func (p *Peer) pending() []*operation {
	var list []*operation
	for _, ticket := range sortedKeys(p.operations, cmp.Compare[uint64]) {
		list = append(list, p.operations[ticket])
	}
	return list
}

// pendingOn returns the operations of a kind on an object that have not ended, in the order of their tickets.
func (p *Peer) pendingOn(kind api.OpKind, object api.Digest) []*operation {
	return slices.DeleteFunc(p.pending(), func(o *operation) bool { return o.Kind != kind || o.Object != object })
}

// requests returns the requests of an operation to other peers, in their order.
func (p *Peer) requests(o *operation, peers []int) []api.Message {
	if o.Kind == api.OpRestore {
		return p.toOthers(api.KindFetch, peers, o.Object)
	}
	messages := p.toOthers(api.KindInstall, peers, o.Object)
	for i, msg := range messages {
		msg.Manifest, msg.Piece = o.manifest, o.pieces[msg.To]
		messages[i] = wire.Clone(msg) // the operation keeps its own for the next time
	}
	return messages
}

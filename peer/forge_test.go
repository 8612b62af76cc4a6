package peer_test

import (
	"slices"

	"stolon/api"
	"stolon/digest"
)

// forged returns a message to a peer that nobody has sent.
func (c *trial) forged(to int) api.Message {
	peers := len(c.twins)
	from := (to + 1 + c.r.IntN(peers-1)) % peers
	kind := api.Kind(1 + c.r.IntN(13))
	msg := api.Message{Kind: kind, From: from, To: to}
	x := c.anyObject()
	switch {
	case kind <= api.KindPingReq:
		c.forgeTable(&msg)
	case kind == api.KindSum:
		msg.Count, msg.Root = c.r.IntN(10), api.Digest{byte(c.r.IntN(256))}
	case kind == api.KindItems:
		c.forgeRecords(&msg)
	case kind == api.KindOffer || kind == api.KindInstall:
		msg.Object, msg.Manifest, msg.Piece = x.id, x.m, x.pieces[c.r.IntN(len(x.pieces))]
		if c.r.IntN(2) == 0 {
			msg.Piece = x.pieces[to]
		}
		c.forgePiece(&msg)
	default:
		msg.Object = x.id
		if kind == api.KindStored {
			msg.Code = api.Errno(c.r.IntN(3) * c.r.IntN(50))
		}
	}
	c.forgeHead(&msg)
	return msg
}

// forgeTable gives a message a table that is a little newer or older than the known one.
func (c *trial) forgeTable(msg *api.Message) {
	peers := len(c.twins)
	msg.Seq = uint64(c.r.IntN(20))
	if msg.Kind == api.KindPingReq {
		msg.Target = c.r.IntN(peers)
	} else {
		msg.Origin = c.r.IntN(peers)
	}
	if msg.Table = c.twins[msg.To].p.Table(); len(msg.Table) == 0 {
		msg.Table = table(peers)
	}
	i := c.r.IntN(peers)
	switch c.r.IntN(4) {
	case 0:
		msg.Table[i] = api.Member{Inc: msg.Table[i].Inc + uint64(c.r.IntN(2)) + 1, Status: api.Status(1 + c.r.IntN(4))}
	case 1:
		msg.Table[i] = api.Member{Inc: msg.Table[i].Inc + 1, Status: api.Alive}
	}
}

// forgeRecords gives a message records that may be newer than the known ones, also of the receiver itself.
func (c *trial) forgeRecords(msg *api.Message) {
	w := c.twins[msg.To]
	msg.Want = c.r.IntN(2) == 0
	for range c.r.IntN(3) {
		x := c.anyObject()
		holder := c.r.IntN(len(c.twins) + 1)
		inc := uint64(1 + c.r.IntN(4))
		for _, r := range w.p.Records() {
			if r.Kind == api.RecordBase && r.Holder == holder {
				inc = max(1, r.Inc+uint64(c.r.IntN(3))-1)
			}
		}
		r := heldRecord(x, holder, inc, uint64(1+c.r.IntN(5)))
		switch c.r.IntN(40) {
		case 0:
			r = graveRecord(x.id)
		case 1, 2, 3:
			r = baseRecord(holder, inc)
		case 4, 5, 6, 7, 8, 9:
			r.Held = false
		case 10:
			r.K, r.N = 1, 1+c.r.IntN(5)
		case 11:
			r.Inc, r.Holder = 1<<64-1, msg.To // a challenge that can not be answered
			if c.r.IntN(3) != 0 {
				r.Inc = 99
			}
		}
		msg.Records = append(msg.Records, r)
	}
}

// forgePiece changes something of a message with a piece.
func (c *trial) forgePiece(msg *api.Message) {
	msg.Piece.Data = slices.Clone(msg.Piece.Data)
	switch c.r.IntN(12) {
	case 0:
		msg.Object = c.anyObject().id
	case 1:
		msg.Piece.Data = append(msg.Piece.Data, 7)
	case 2:
		if len(msg.Piece.Data) > 0 {
			msg.Piece.Data[0] ^= 9
		}
	case 3:
		msg.Piece.Index = c.r.IntN(msg.Manifest.Total)
	case 4:
		msg.Manifest.N = min(msg.Manifest.N+1, msg.Manifest.Total)
		if c.r.IntN(2) == 0 {
			msg.Object, _ = digest.ID(msg.Manifest)
		}
	}
}

// forgeHead sometimes makes a message one that is refused.
func (c *trial) forgeHead(msg *api.Message) {
	switch c.r.IntN(40) {
	case 0:
		msg.Kind = api.Kind(c.r.IntN(20))
	case 1:
		msg.From = c.r.IntN(20) - 2
	case 2:
		msg.To = c.r.IntN(20) - 2
	case 3:
		msg.Table = append(slices.Clone(msg.Table), api.Member{Inc: 1, Status: api.Alive})
	case 4:
		msg.High = []byte{1}
	case 5:
		msg.Code = -1
	}
}

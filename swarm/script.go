package swarm

import (
	"math"

	"stolon/api"
	"stolon/digest"
)

const (
	setupSize = 7  // bytes of a setup
	eventSize = 16 // bytes of an event, without its Data
)

// Valid reports whether a setup is valid.
func Valid(s api.Setup) bool {
	return s.Peers >= 2 && s.Peers <= api.MaxPeers &&
		s.Blocks >= api.MinBlocks && s.Blocks <= api.MaxBlocks &&
		s.Quota >= 0 && s.Quota <= math.MaxUint32
}

// isWritable reports whether an event can be written.
func isWritable(e api.Event) bool {
	return e.Peer >= 0 && e.Peer <= math.MaxUint8 &&
		e.A >= 0 && e.A <= math.MaxUint16 &&
		e.B >= 0 && e.B <= math.MaxUint16 &&
		len(e.Data) <= math.MaxUint16
}

// Script returns the bytes of a script.
func Script(s api.Setup, events []api.Event) ([]byte, api.Errno) {
	if !Valid(s) {
		return nil, api.ErrArg
	}
	size := setupSize
	for _, e := range events {
		if !isWritable(e) {
			return nil, api.ErrArg
		}
		size += eventSize + len(e.Data)
	}
	w := digest.NewWriter(size)
	w.U8(uint8(s.Peers))
	w.U16(uint16(s.Blocks))
	w.U32(uint32(s.Quota))
	for _, e := range events {
		w.U8(uint8(e.Kind))
		w.U8(uint8(e.Peer))
		w.U16(uint16(e.A))
		w.U16(uint16(e.B))
		w.U64(e.Draw)
		w.Text(e.Data)
	}
	return w.Bytes()
}

// Parse returns the setup and the events of a script.
func Parse(b []byte) (api.Setup, []api.Event, api.Errno) {
	r := digest.NewReader(b)
	s := api.Setup{Peers: int(r.U8()), Blocks: int(r.U16()), Quota: int(r.U32())}
	if e := r.Err(); e != api.OK {
		return api.Setup{}, nil, e
	}
	if !Valid(s) {
		return api.Setup{}, nil, api.ErrArg
	}
	var events []api.Event
	for {
		e := readEvent(r)
		if r.Err() != api.OK {
			return s, events, api.OK // what could not be read whole is ignored
		}
		events = append(events, e)
	}
}

// readEvent reads an event.
func readEvent(r *digest.Reader) api.Event {
	return api.Event{
		Kind: api.EventKind(r.U8()), Peer: int(r.U8()), A: int(r.U16()), B: int(r.U16()), Draw: r.U64(), Data: r.Text(),
	}
}

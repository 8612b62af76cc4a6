package wire

import (
	"stolon/api"
	"stolon/digest"
	"stolon/inventory"
	"stolon/member"
)

// layout is what the messages of a kind look like. Its functions are about the fields that the kind uses besides Kind, From and To.
type layout struct {
	name  string
	used  func(m api.Message) api.Message            // a message with these fields of m alone
	valid func(m api.Message) bool                   // whether these fields are valid, one by one
	write func(w *digest.Writer, m api.Message)      // writes these fields, which are valid, as a body
	read  func(r *digest.Reader) (api.Message, bool) // reads them from a body: false if it is refused for what it contains
}

// layouts returns the layout of each kind, at the place that the kind's number gives. A place without a kind has no name.
func layouts() [api.KindKeep + 1]layout {
	var all [api.KindKeep + 1]layout
	set := func(kind api.Kind, name string, l layout) {
		l.name = name
		all[kind] = l
	}
	set(api.KindPing, "ping", probeLayout())
	set(api.KindAck, "ack", probeLayout())
	set(api.KindPingReq, "pingreq", requestLayout())
	set(api.KindSum, "sum", sumLayout())
	set(api.KindItems, "items", itemsLayout())
	set(api.KindClaim, "claim", objectLayout())
	set(api.KindFetch, "fetch", objectLayout())
	set(api.KindOffer, "offer", pieceLayout())
	set(api.KindLack, "lack", objectLayout())
	set(api.KindInstall, "install", pieceLayout())
	set(api.KindStored, "stored", storedLayout())
	set(api.KindAsk, "ask", objectLayout())
	set(api.KindKeep, "keep", objectLayout())
	return all
}

// layoutOf returns the layout of a kind, and whether there is such a kind.
func layoutOf(k api.Kind) (layout, bool) {
	all := layouts()
	if int(k) >= len(all) || all[k].name == "" {
		return layout{}, false
	}
	return all[k], true
}

// probeLayout is the layout of pings and acks.
func probeLayout() layout {
	return layout{
		used: func(m api.Message) api.Message {
			return api.Message{Seq: m.Seq, Origin: m.Origin, Table: m.Table}
		},
		valid: func(m api.Message) bool { return isPeer(m.Origin) && member.Valid(m.Table) },
		write: func(w *digest.Writer, m api.Message) {
			w.U64(m.Seq)
			w.U8(uint8(m.Origin))
			writeTable(w, m.Table)
		},
		read: func(r *digest.Reader) (api.Message, bool) {
			return api.Message{Seq: r.U64(), Origin: int(r.U8()), Table: readTable(r)}, true
		},
	}
}

// requestLayout is the layout of requests to ping another peer.
func requestLayout() layout {
	return layout{
		used: func(m api.Message) api.Message {
			return api.Message{Seq: m.Seq, Target: m.Target, Table: m.Table}
		},
		valid: func(m api.Message) bool { return isPeer(m.Target) && member.Valid(m.Table) },
		write: func(w *digest.Writer, m api.Message) {
			w.U64(m.Seq)
			w.U8(uint8(m.Target))
			writeTable(w, m.Table)
		},
		read: func(r *digest.Reader) (api.Message, bool) {
			return api.Message{Seq: r.U64(), Target: int(r.U8()), Table: readTable(r)}, true
		},
	}
}

// sumLayout is the layout of summaries.
func sumLayout() layout {
	return layout{
		used: func(m api.Message) api.Message {
			return api.Message{Low: m.Low, High: m.High, Count: m.Count, Root: m.Root}
		},
		valid: func(m api.Message) bool {
			return isRange(m.Low, m.High) && m.Count >= 0 && m.Count <= api.MaxCount
		},
		write: func(w *digest.Writer, m api.Message) {
			w.Text(m.Low)
			w.Text(m.High)
			w.U32(uint32(m.Count))
			w.Raw(m.Root[:])
		},
		read: func(r *digest.Reader) (api.Message, bool) {
			return api.Message{Low: r.Text(), High: r.Text(), Count: int(r.U32()), Root: readDigest(r)}, true
		},
	}
}

// itemsLayout is the layout of messages with records.
func itemsLayout() layout {
	return layout{
		used: func(m api.Message) api.Message {
			return api.Message{Low: m.Low, High: m.High, Want: m.Want, Records: m.Records}
		},
		valid: func(m api.Message) bool { return isRange(m.Low, m.High) && validRecords(m.Records) },
		write: func(w *digest.Writer, m api.Message) {
			w.Text(m.Low)
			w.Text(m.High)
			w.U8(bit(m.Want))
			writeRecords(w, m.Records)
		},
		read: func(r *digest.Reader) (api.Message, bool) {
			m := api.Message{Low: r.Text(), High: r.Text()}
			want := r.U8()
			records, ok := readRecords(r)
			m.Want, m.Records = want == 1, records
			return m, ok && want == bit(m.Want)
		},
	}
}

// objectLayout is the layout of messages that name an object and say no more.
func objectLayout() layout {
	return layout{
		used:  func(m api.Message) api.Message { return api.Message{Object: m.Object} },
		valid: func(api.Message) bool { return true },
		write: func(w *digest.Writer, m api.Message) { w.Raw(m.Object[:]) },
		read: func(r *digest.Reader) (api.Message, bool) {
			return api.Message{Object: readDigest(r)}, true
		},
	}
}

// pieceLayout is the layout of messages with a piece.
func pieceLayout() layout {
	return layout{
		used: func(m api.Message) api.Message {
			return api.Message{Object: m.Object, Manifest: m.Manifest, Piece: m.Piece}
		},
		valid: func(m api.Message) bool {
			return digest.CheckManifest(m.Manifest) == api.OK && m.Piece.Index >= 0 && m.Piece.Index < m.Manifest.Total && len(m.Piece.Data) <= api.MaxObject
		},
		write: func(w *digest.Writer, m api.Message) {
			manifest, _ := digest.EncodeManifest(m.Manifest)
			w.Raw(m.Object[:])
			w.Text(manifest)
			w.U16(uint16(m.Piece.Index))
			w.Text(m.Piece.Data)
		},
		read: func(r *digest.Reader) (api.Message, bool) {
			m := api.Message{Object: readDigest(r)}
			manifest, e := digest.DecodeManifest(r.Text())
			m.Manifest = manifest
			m.Piece = api.Piece{Index: int(r.U16()), Data: r.Text()}
			return m, e == api.OK
		},
	}
}

// storedLayout is the layout of the results of installs.
func storedLayout() layout {
	return layout{
		used:  func(m api.Message) api.Message { return api.Message{Object: m.Object, Code: m.Code} },
		valid: func(m api.Message) bool { return m.Code >= 0 && m.Code <= api.MaxCode },
		write: func(w *digest.Writer, m api.Message) {
			w.Raw(m.Object[:])
			w.U16(uint16(m.Code))
		},
		read: func(r *digest.Reader) (api.Message, bool) {
			return api.Message{Object: readDigest(r), Code: api.Errno(r.U16())}, true
		},
	}
}

// isRange reports whether the bounds of a range of keys are valid.
func isRange(low, high []byte) bool { return len(low) <= api.KeySize && len(high) <= api.KeySize }

// validRecords reports whether a message may have these records.
func validRecords(records []api.Record) bool {
	for _, record := range records {
		if !inventory.Valid(record) {
			return false
		}
	}
	return len(records) <= api.MaxItems
}

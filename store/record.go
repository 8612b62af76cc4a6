package store

import (
	"stolon/api"
	"stolon/digest"
)

// The kinds of records: the first byte of each.
const (
	_ uint8 = iota
	kindIncarnation
	kindPiece
	kindDrop
	kindGrave
)

// written returns what a Writer has collected. No record comes near the limit, so that it cannot have failed.
func written(w *digest.Writer) []byte {
	b, _ := w.Bytes()
	return b
}

// newRecord returns a Writer in which a record of a kind begins.
func newRecord(kind uint8) *digest.Writer {
	w := digest.NewWriter(api.MaxRecord)
	w.U8(kind)
	return w
}

// incarnationRecord returns the record of an incarnation.
func incarnationRecord(inc uint64) []byte {
	w := newRecord(kindIncarnation)
	w.U64(inc)
	return written(w)
}

// pieceRecord returns the record of a piece and of its valid manifest.
func pieceRecord(m api.Manifest, p api.Piece) []byte {
	manifest, _ := digest.EncodeManifest(m)
	w := newRecord(kindPiece)
	w.U16(uint16(p.Index))
	w.Text(manifest)
	w.Raw(p.Data)
	return written(w)
}

// idRecord returns the record of a drop or of a grave.
func idRecord(kind uint8, id api.Digest) []byte {
	w := newRecord(kind)
	w.Raw(id[:])
	return written(w)
}

// kindOf returns the kind of a record: 0, which is none, if the record is empty.
func kindOf(record []byte) uint8 { return digest.NewReader(record).U8() }

// body returns a Reader of what follows the kind of a record.
func body(record []byte) *digest.Reader {
	r := digest.NewReader(record)
	r.U8()
	return r
}

// readIncarnation returns the incarnation of a record of its kind, and whether the record is well-formed.
func readIncarnation(record []byte) (uint64, bool) {
	r := body(record)
	inc := r.U64()
	return inc, r.End() == api.OK
}

// readID returns the id of a record of a drop or of a grave, and whether the record is well-formed.
func readID(record []byte) (api.Digest, bool) {
	var id api.Digest
	r := body(record)
	copy(id[:], r.Raw(len(id)))
	return id, r.End() == api.OK
}

// sound is what a sound piece record contains.
type sound struct {
	id       api.Digest
	manifest api.Manifest
	piece    api.Piece
}

// readPiece returns what a piece record contains, and whether it is one and sound.
func readPiece(record []byte) (sound, bool) {
	if kindOf(record) != kindPiece {
		return sound{}, false
	}
	r := body(record)
	index := int(r.U16())
	// A record that ends too early leaves no bytes for the manifest, and no manifest is empty.
	m, e := digest.DecodeManifest(r.Text())
	if e != api.OK {
		return sound{}, false
	}
	p := api.Piece{Index: index, Data: r.Raw(r.Rest())}
	if digest.CheckPiece(m, p) != api.OK {
		return sound{}, false
	}
	id, _ := digest.ID(m)
	return sound{id: id, manifest: m, piece: p}, true
}

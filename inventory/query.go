package inventory

import (
	"bytes"
	"iter"
	"slices"

	"stolon/api"
)

// Lookup returns the piece record of an object and a holder.
func (v *Inventory) Lookup(object api.Digest, holder int) (api.Record, bool) {
	for r := range v.ofKind(api.RecordPiece, object[:]) {
		if r.Holder == holder {
			return r, true
		}
	}
	return api.Record{}, false
}

// Base returns the incarnation in the base of a holder.
func (v *Inventory) Base(holder int) uint64 {
	for r := range v.ofKind(api.RecordBase, nil) {
		if r.Holder == holder {
			return r.Inc
		}
	}
	return 0
}

// Buried reports whether an object is deleted.
func (v *Inventory) Buried(object api.Digest) bool {
	for range v.ofKind(api.RecordGrave, object[:]) {
		return true
	}
	return false
}

// Objects returns the objects of which a piece is held.
func (v *Inventory) Objects() []api.Digest {
	var objects []api.Digest
	for r := range v.ofKind(api.RecordPiece, nil) {
		if r.Held {
			objects = append(objects, r.Object)
		}
	}
	// The records of one object stand side by side.
	return slices.Compact(objects)
}

// Holders returns the holders of an object.
func (v *Inventory) Holders(object api.Digest) []int {
	var holders []int
	for r := range v.ofKind(api.RecordPiece, object[:]) {
		if r.Held {
			holders = append(holders, r.Holder)
		}
	}
	return holders
}

// Demand returns K and N of an object.
func (v *Inventory) Demand(object api.Digest) (k, n int) {
	for r := range v.ofKind(api.RecordPiece, object[:]) {
		if r.Held {
			return r.K, r.N
		}
	}
	return 0, 0
}

// ofKind yields the records of a kind in ascending order of their keys: those of one object, if its bytes are given, otherwise all of them.
func (v *Inventory) ofKind(kind api.RecordKind, object []byte) iter.Seq[api.Record] {
	prefix := append([]byte{byte(kind)}, object...)
	return func(yield func(api.Record) bool) {
		for _, r := range v.between(prefix, nil) {
			k := keyOf(r)
			if !bytes.HasPrefix(k[:], prefix) || !yield(r) {
				return
			}
		}
	}
}

package inventory

import (
	"cmp"

	"stolon/api"
	"stolon/digest"
)

// key is the key of a valid record. It says which records are about the same thing, and gives all records their order.
type key [api.KeySize]byte

// Valid reports whether a record is valid.
func Valid(r api.Record) bool {
	switch r.Kind {
	case api.RecordBase:
		return isHolder(r.Holder) && r.Inc >= 1 && r == api.Record{Kind: r.Kind, Holder: r.Holder, Inc: r.Inc}
	case api.RecordGrave:
		return r == api.Record{Kind: r.Kind, Object: r.Object}
	case api.RecordPiece:
		return isHolder(r.Holder) && r.Inc >= 1 && r.Num >= 1 && 1 <= r.K && r.K <= r.N && r.N <= api.MaxTotal
	}
	return false
}

// isHolder reports whether a number is that of a possible holder.
func isHolder(number int) bool { return number >= 0 && number < api.MaxPeers }

// Key returns the key of a record.
func Key(r api.Record) ([]byte, api.Errno) {
	if !Valid(r) {
		return nil, api.ErrArg
	}
	k := keyOf(r)
	return k[:], api.OK
}

// keyOf returns the key of a valid record.
func keyOf(r api.Record) key {
	var k key
	k[0] = byte(r.Kind)
	copy(k[1:], r.Object[:])
	k[len(k)-1] = byte(r.Holder)
	return k
}

// EncodeRecord returns the bytes of a record.
func EncodeRecord(r api.Record) ([]byte, api.Errno) {
	if !Valid(r) {
		return nil, api.ErrArg
	}
	w := digest.NewWriter(api.RecordSize)
	w.U8(uint8(r.Kind))
	w.Raw(r.Object[:])
	w.U8(uint8(r.Holder))
	w.U64(r.Inc)
	w.U64(r.Num)
	w.U8(bit(r.Held))
	w.U8(uint8(r.K))
	w.U8(uint8(r.N))
	return w.Bytes()
}

// DecodeRecord returns the record with these bytes.
func DecodeRecord(b []byte) (api.Record, api.Errno) {
	if len(b) < api.RecordSize {
		return api.Record{}, api.ErrShort
	}
	if len(b) > api.RecordSize {
		return api.Record{}, api.ErrLong
	}
	var r api.Record
	in := digest.NewReader(b)
	r.Kind = api.RecordKind(in.U8())
	copy(r.Object[:], in.Raw(len(r.Object)))
	r.Holder = int(in.U8())
	r.Inc = in.U64()
	r.Num = in.U64()
	held := in.U8()
	r.Held = held == 1
	r.K = int(in.U8())
	r.N = int(in.U8())
	if held != bit(r.Held) {
		return api.Record{}, api.ErrForm
	}
	if !Valid(r) {
		return api.Record{}, api.ErrArg
	}
	return r, api.OK
}

// Newer reports whether a record is newer than another one with the same key.
func Newer(a, b api.Record) bool {
	if !Valid(a) || !Valid(b) || keyOf(a) != keyOf(b) {
		return false
	}
	return cmp.Or(
		cmp.Compare(a.Inc, b.Inc),
		cmp.Compare(a.Num, b.Num),
		cmp.Compare(bit(a.Held), bit(b.Held)),
		cmp.Compare(a.K, b.K),
		cmp.Compare(a.N, b.N),
	) > 0
}

// bit returns 1 for true and 0 for false.
func bit(b bool) uint8 {
	if b {
		return 1
	}
	return 0
}

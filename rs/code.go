package rs

import (
	"bytes"

	"stolon/api"
)

// validCode reports whether k pieces of total ones may determine an object.
func validCode(k, total int) bool { return 1 <= k && k <= total && total <= api.MaxTotal }

// PieceSize returns the length of a piece.
func PieceSize(k, size int) (int, api.Errno) {
	if k < 1 || k > api.MaxTotal || size < 0 || size > api.MaxObject {
		return 0, api.ErrArg
	}
	return (size + k - 1) / k, api.OK
}

// Encode returns all pieces of an object.
func (f *Field) Encode(k, total int, data []byte) ([]api.Piece, api.Errno) {
	if f == nil {
		return nil, api.ErrNil
	}
	if !validCode(k, total) {
		return nil, api.ErrArg
	}
	if len(data) > api.MaxObject {
		return nil, api.ErrLong
	}
	f.build()
	first := split(k, data)
	out := make([]api.Piece, total)
	copy(out, first)
	s := f.newSource(first)
	for i := k; i < total; i++ {
		out[i] = api.Piece{Index: i, Data: s.piece(i)}
	}
	return out, api.OK
}

// split returns the first k pieces of an object, which are its bytes, extended with zeros.
func split(k int, data []byte) []api.Piece {
	length, _ := PieceSize(k, len(data))
	pieces := make([]api.Piece, k)
	for i := range k {
		pieces[i] = api.Piece{Index: i, Data: make([]byte, length)}
		data = data[copy(pieces[i].Data, data):]
	}
	return pieces
}

// Decode returns the object that the first k pieces determine.
func (f *Field) Decode(k, total, size int, pieces []api.Piece) ([]byte, api.Errno) {
	if f == nil {
		return nil, api.ErrNil
	}
	length, e := PieceSize(k, size)
	if !validCode(k, total) || e != api.OK {
		return nil, api.ErrArg
	}
	e = checkPieces(k, total, pieces, func(data []byte) api.Errno {
		if len(data) != length {
			return api.ErrShape
		}
		return api.OK
	})
	if e != api.OK {
		return nil, e
	}
	f.build()
	s := f.newSource(pieces[:k])
	out := make([]byte, size)
	rest := out
	for i := range k {
		// The last pieces may be longer than what is left of the object: their end is the extension.
		rest = rest[copy(rest, s.piece(i)):]
	}
	return out, api.OK
}

// Rebuild returns the piece number index that the first k pieces determine.
func (f *Field) Rebuild(k, total int, pieces []api.Piece, index int) (api.Piece, api.Errno) {
	if f == nil {
		return api.Piece{}, api.ErrNil
	}
	if !validCode(k, total) || index < 0 || index >= total {
		return api.Piece{}, api.ErrArg
	}
	if e := checkAlike(k, total, pieces); e != api.OK {
		return api.Piece{}, e
	}
	f.build()
	return api.Piece{Index: index, Data: f.newSource(pieces[:k]).piece(index)}, api.OK
}

// Consistent reports whether all pieces belong to one encoding.
func (f *Field) Consistent(k, total int, pieces []api.Piece) (bool, api.Errno) {
	if f == nil {
		return false, api.ErrNil
	}
	if !validCode(k, total) {
		return false, api.ErrArg
	}
	if e := checkAlike(k, total, pieces); e != api.OK {
		return false, e
	}
	f.build()
	s := f.newSource(pieces[:k])
	for _, p := range pieces[k:] {
		if !bytes.Equal(p.Data, s.piece(p.Index)) {
			return false, api.OK
		}
	}
	return true, api.OK
}

// checkAlike checks pieces that must be as long as the first one, whatever the length of the object.
func checkAlike(k, total int, pieces []api.Piece) api.Errno {
	return checkPieces(k, total, pieces, func(data []byte) api.Errno {
		if len(data) > api.MaxObject {
			return api.ErrLong
		}
		if len(data) != len(pieces[0].Data) {
			return api.ErrShape
		}
		return api.OK
	})
}

// checkPieces checks the number of each piece, then its bytes with checkData, and then that there are at least k pieces.
func checkPieces(k, total int, pieces []api.Piece, checkData func([]byte) api.Errno) api.Errno {
	var seen [api.MaxTotal]bool
	for _, p := range pieces {
		if p.Index < 0 || p.Index >= total {
			return api.ErrArg
		}
		if seen[p.Index] {
			return api.ErrTwice
		}
		seen[p.Index] = true
		if e := checkData(p.Data); e != api.OK {
			return e
		}
	}
	if len(pieces) < k {
		return api.ErrFew
	}
	return api.OK
}

// source is k pieces, which determine all others.
type source struct {
	pieces []api.Piece
	basis  lagrange
}

// newSource returns the source of checked pieces; there is at least one.
func (f *Field) newSource(pieces []api.Piece) source {
	places := make([]byte, len(pieces))
	for i, p := range pieces {
		places[i] = byte(p.Index)
	}
	return source{pieces, f.newLagrange(places)}
}

// piece returns the bytes of the piece number index, in new memory.
func (s source) piece(index int) []byte {
	out := make([]byte, len(s.pieces[0].Data))
	for i, weight := range s.basis.weights(byte(index)) {
		if weight != 0 {
			s.basis.field.addScaled(out, s.pieces[i].Data, weight)
		}
	}
	return out
}

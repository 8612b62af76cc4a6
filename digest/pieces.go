package digest

import (
	"stolon/api"
	"stolon/rs"
)

// Make returns the manifest and the pieces of an object.
func Make(f *rs.Field, k, n, total int, data []byte) (api.Manifest, []api.Piece, api.Errno) {
	if f == nil {
		return api.Manifest{}, nil, api.ErrNil
	}
	if !validCounts(k, n, total) {
		return api.Manifest{}, nil, api.ErrArg
	}
	pieces, e := f.Encode(k, total, data)
	if e != api.OK {
		return api.Manifest{}, nil, e
	}
	m := api.Manifest{K: k, N: n, Total: total, Size: len(data), Object: SHA256(data), Pieces: make([]api.Digest, total)}
	for i, p := range pieces {
		m.Pieces[i] = PieceDigest(p.Index, p.Data)
	}
	return m, pieces, api.OK
}

// PieceDigest returns the digest of a piece.
func PieceDigest(index int, data []byte) api.Digest {
	h := NewHash()
	number := uint16(index) // modulo 65536, also for an index below 0
	h.Write([]byte{byte(number >> 8), byte(number)})
	h.Write(data)
	return h.Sum()
}

// CheckPiece checks a piece against a manifest.
func CheckPiece(m api.Manifest, p api.Piece) api.Errno {
	if e := CheckManifest(m); e != api.OK {
		return e
	}
	if p.Index < 0 || p.Index >= m.Total {
		return api.ErrArg
	}
	// The numbers of a valid manifest have a PieceSize.
	if length, _ := rs.PieceSize(m.K, m.Size); len(p.Data) != length {
		return api.ErrShape
	}
	if PieceDigest(p.Index, p.Data) != m.Pieces[p.Index] {
		return api.ErrSum
	}
	return api.OK
}

// checkPieces checks each piece, that none occurs twice, and then that there are enough of them for the valid manifest m.
func checkPieces(m api.Manifest, pieces []api.Piece) api.Errno {
	seen := make(map[int]bool)
	for _, p := range pieces {
		if e := CheckPiece(m, p); e != api.OK {
			return e
		}
		if seen[p.Index] {
			return api.ErrTwice
		}
		seen[p.Index] = true
	}
	if len(pieces) < m.K {
		return api.ErrFew
	}
	return api.OK
}

// Assemble returns the object from pieces.
func Assemble(f *rs.Field, m api.Manifest, pieces []api.Piece) ([]byte, api.Errno) {
	if f == nil {
		return nil, api.ErrNil
	}
	if e := CheckManifest(m); e != api.OK {
		return nil, e
	}
	if e := checkPieces(m, pieces); e != api.OK {
		return nil, e
	}
	data, e := f.Decode(m.K, m.Total, m.Size, pieces)
	if e == api.OK && SHA256(data) != m.Object {
		e = api.ErrSum
	}
	if e != api.OK {
		return nil, e
	}
	return data, api.OK
}

// Regenerate returns a piece from other pieces.
func Regenerate(f *rs.Field, m api.Manifest, pieces []api.Piece, index int) (api.Piece, api.Errno) {
	if f == nil {
		return api.Piece{}, api.ErrNil
	}
	if e := CheckManifest(m); e != api.OK {
		return api.Piece{}, e
	}
	if index < 0 || index >= m.Total {
		return api.Piece{}, api.ErrArg
	}
	if e := checkPieces(m, pieces); e != api.OK {
		return api.Piece{}, e
	}
	p, e := f.Rebuild(m.K, m.Total, pieces, index)
	if e == api.OK && PieceDigest(p.Index, p.Data) != m.Pieces[index] {
		e = api.ErrSum
	}
	if e != api.OK {
		return api.Piece{}, e
	}
	return p, api.OK
}

package digest

import "stolon/api"

// The first two bytes of a manifest.
const (
	manifestMark    = 77
	manifestVersion = 1
)

// headSize is the number of bytes before the digests of a manifest.
const headSize = 7

// CheckManifest returns ErrArg if a manifest is not valid.
func CheckManifest(m api.Manifest) api.Errno {
	if !validNumbers(m) || len(m.Pieces) != m.Total {
		return api.ErrArg
	}
	return api.OK
}

// validNumbers reports whether a manifest is valid but for the length of Pieces.
func validNumbers(m api.Manifest) bool {
	return validCounts(m.K, m.N, m.Total) && 0 <= m.Size && m.Size <= api.MaxObject
}

// validCounts reports whether a manifest may have k, n and total pieces that are needed, wanted and possible.
func validCounts(k, n, total int) bool {
	return 1 <= k && k <= n && n <= total && total <= api.MaxTotal
}

// manifestSize returns the number of bytes of a manifest of total pieces.
func manifestSize(total int) int { return headSize + len(api.Digest{})*(1+total) }

// EncodeManifest returns the bytes of a manifest.
func EncodeManifest(m api.Manifest) ([]byte, api.Errno) {
	if e := CheckManifest(m); e != api.OK {
		return nil, e
	}
	w := NewWriter(manifestSize(m.Total))
	w.U8(manifestMark)
	w.U8(manifestVersion)
	w.U8(uint8(m.K))
	w.U8(uint8(m.N))
	w.U8(uint8(m.Total))
	w.U16(uint16(m.Size))
	w.Raw(m.Object[:])
	for _, d := range m.Pieces {
		w.Raw(d[:])
	}
	return w.Bytes()
}

// DecodeManifest returns the manifest with these bytes.
func DecodeManifest(b []byte) (api.Manifest, api.Errno) {
	if len(b) < headSize {
		return api.Manifest{}, api.ErrShort
	}
	r := NewReader(b)
	mark, version := r.U8(), r.U8()
	if mark != manifestMark || version != manifestVersion {
		return api.Manifest{}, api.ErrForm
	}
	m := api.Manifest{K: int(r.U8()), N: int(r.U8()), Total: int(r.U8()), Size: int(r.U16())}
	if !validNumbers(m) {
		return api.Manifest{}, api.ErrArg
	}
	m.Object = readDigest(r)
	m.Pieces = make([]api.Digest, m.Total)
	for i := range m.Total {
		m.Pieces[i] = readDigest(r)
	}
	// The Reader fails if the digests are cut short; what follows them is malformed.
	if e := r.End(); e != api.OK {
		return api.Manifest{}, e
	}
	return m, api.OK
}

// readDigest reads a digest, or returns a zero digest if the Reader fails.
func readDigest(r *Reader) api.Digest {
	var d api.Digest
	copy(d[:], r.take(len(d)))
	return d
}

// ID returns the id of an object: the digest of its manifest's bytes.
func ID(m api.Manifest) (api.Digest, api.Errno) {
	b, e := EncodeManifest(m)
	if e != api.OK {
		return api.Digest{}, e
	}
	return SHA256(b), api.OK
}

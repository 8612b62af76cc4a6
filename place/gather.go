package place

import (
	"bytes"
	"slices"

	"stolon/api"
	"stolon/digest"
	"stolon/rs"
)

// Gather collects pieces of one object.
type Gather struct {
	object   api.Digest
	manifest api.Manifest // of the pieces, if there are any
	pieces   []api.Piece  // in the order in which they were added
}

// NewGather returns a Gather of an object.
func NewGather(object api.Digest) *Gather { return &Gather{object: object} }

// Offer adds a piece.
func (g *Gather) Offer(m api.Manifest, p api.Piece) api.Errno {
	if g == nil {
		return api.ErrNil
	}
	if e := g.check(m, p); e != api.OK {
		return e
	}
	if len(g.pieces) == 0 {
		g.manifest = copyManifest(m)
	}
	g.pieces = append(g.pieces, api.Piece{Index: p.Index, Data: bytes.Clone(p.Data)})
	return api.OK
}

// check returns the error with which a piece is refused.
func (g *Gather) check(m api.Manifest, p api.Piece) api.Errno {
	id, e := digest.ID(m)
	if e != api.OK {
		return e
	}
	if id != g.object {
		return api.ErrSum
	}
	if e := digest.CheckPiece(m, p); e != api.OK {
		return e
	}
	if slices.Contains(g.Indices(), p.Index) {
		return api.ErrTwice
	}
	if g.Ready() {
		return api.ErrFull
	}
	return api.OK
}

// Ready reports whether there are enough pieces.
func (g *Gather) Ready() bool {
	return g != nil && len(g.pieces) > 0 && len(g.pieces) >= g.manifest.K
}

// Manifest returns the manifest of the pieces.
func (g *Gather) Manifest() (api.Manifest, bool) {
	if g == nil || len(g.pieces) == 0 {
		return api.Manifest{}, false
	}
	return copyManifest(g.manifest), true
}

// copyManifest returns a manifest that shares no memory with m.
func copyManifest(m api.Manifest) api.Manifest {
	m.Pieces = slices.Clone(m.Pieces)
	return m
}

// Indices returns the numbers of the pieces.
func (g *Gather) Indices() []int {
	if g == nil {
		return nil
	}
	indices := make([]int, len(g.pieces))
	for i, p := range g.pieces {
		indices[i] = p.Index
	}
	return indices
}

// Data returns the object.
func (g *Gather) Data(f *rs.Field) ([]byte, api.Errno) {
	if e := g.complete(); e != api.OK {
		return nil, e
	}
	return digest.Assemble(f, g.manifest, g.pieces)
}

// Piece returns a piece that the others determine.
func (g *Gather) Piece(f *rs.Field, index int) (api.Piece, api.Errno) {
	if e := g.complete(); e != api.OK {
		return api.Piece{}, e
	}
	return digest.Regenerate(f, g.manifest, g.pieces, index)
}

// complete returns an error if the pieces do not determine the object.
func (g *Gather) complete() api.Errno {
	if g == nil {
		return api.ErrNil
	}
	if !g.Ready() {
		return api.ErrFew
	}
	return api.OK
}

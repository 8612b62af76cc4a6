package wire

import (
	"bytes"
	"slices"

	"stolon/api"
)

// Equal reports whether two messages have the same fields.
func Equal(a, b api.Message) bool {
	return a.Kind == b.Kind && a.From == b.From && a.To == b.To &&
		a.Seq == b.Seq && a.Origin == b.Origin && a.Target == b.Target && slices.Equal(a.Table, b.Table) &&
		bytes.Equal(a.Low, b.Low) && bytes.Equal(a.High, b.High) && a.Count == b.Count && a.Root == b.Root &&
		slices.Equal(a.Records, b.Records) && a.Want == b.Want &&
		a.Object == b.Object && equalManifests(a.Manifest, b.Manifest) && equalPieces(a.Piece, b.Piece) && a.Code == b.Code
}

// equalManifests reports whether two manifests have the same fields.
func equalManifests(a, b api.Manifest) bool {
	return a.K == b.K && a.N == b.N && a.Total == b.Total && a.Size == b.Size && a.Object == b.Object && slices.Equal(a.Pieces, b.Pieces)
}

// equalPieces reports whether two pieces have the same fields.
func equalPieces(a, b api.Piece) bool {
	return a.Index == b.Index && bytes.Equal(a.Data, b.Data)
}

// Clone returns a copy of a message.
func Clone(m api.Message) api.Message {
	m.Table = slices.Clone(m.Table)
	m.Low = bytes.Clone(m.Low)
	m.High = bytes.Clone(m.High)
	m.Records = slices.Clone(m.Records)
	m.Manifest.Pieces = slices.Clone(m.Manifest.Pieces)
	m.Piece.Data = bytes.Clone(m.Piece.Data)
	return m
}

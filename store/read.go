package store

import "stolon/api"

// Get returns a held piece and its manifest.
func (s *Store) Get(id api.Digest) (api.Manifest, api.Piece, api.Errno) {
	if e := s.check(); e != api.OK {
		return api.Manifest{}, api.Piece{}, e
	}
	r, e := s.examine(id)
	return r.manifest, r.piece, e
}

// Scrub examines some held pieces, from the one after the cursor on, and returns the ids of the damaged ones.
func (s *Store) Scrub(count int) []api.Digest {
	if s.check() != api.OK {
		return nil
	}
	ids := sortedKeys(s.held)
	start := 0
	for start < len(ids) && string(ids[start][:]) <= s.cursor {
		start++
	}
	var damaged []api.Digest
	for i := range min(count, len(ids)) {
		id := ids[(start+i)%len(ids)]
		s.cursor = string(id[:])
		if _, e := s.examine(id); e != api.OK {
			damaged = append(damaged, id)
		}
	}
	return damaged
}

// examine reads the record of a held piece from the disk. If the record is damaged, the object is not held any more.
func (s *Store) examine(id api.Digest) (sound, api.Errno) {
	h, held := s.held[id]
	if !held {
		return sound{}, api.ErrNone
	}
	record, _ := s.journal.ReadAt(h.at) // no record, if none stands there, and that is not sound
	r, ok := readPiece(record)
	if !ok || r.id != id {
		s.removePiece(id)
		return sound{}, api.ErrDamaged
	}
	return r, api.OK
}

package store

import (
	"math"

	"stolon/api"
	"stolon/digest"
)

// Raise makes the incarnation greater than a number.
func (s *Store) Raise(above uint64) api.Errno {
	if e := s.check(); e != api.OK {
		return e
	}
	if s.incarnation > above {
		return api.OK
	}
	if above == math.MaxUint64 {
		return api.ErrFull
	}
	inc := above + 1
	return s.change(incarnationRecord(inc), func(next *state, _ int) { next.incarnation = inc })
}

// Put makes a piece held.
func (s *Store) Put(m api.Manifest, p api.Piece) api.Errno {
	if e := s.check(); e != api.OK {
		return e
	}
	if e := digest.CheckPiece(m, p); e != api.OK {
		return e
	}
	id, _ := digest.ID(m)
	if s.graves[id] {
		return api.ErrGone
	}
	if _, held := s.held[id]; held {
		return api.ErrTwice
	}
	if s.bytesHeld()+len(p.Data) > s.quota {
		return api.ErrQuota
	}
	record := pieceRecord(m, p)
	return s.change(record, func(next *state, at int) { next.addPiece(id, newHolding(at, record, p)) })
}

// Drop makes an object not held.
func (s *Store) Drop(id api.Digest) api.Errno {
	if e := s.check(); e != api.OK {
		return e
	}
	if _, held := s.held[id]; !held {
		return api.ErrNone
	}
	return s.change(idRecord(kindDrop, id), func(next *state, _ int) { next.removePiece(id) })
}

// Bury makes an object buried and not held.
func (s *Store) Bury(id api.Digest) api.Errno {
	if e := s.check(); e != api.OK {
		return e
	}
	if s.graves[id] {
		return api.OK
	}
	return s.change(idRecord(kindGrave, id), func(next *state, _ int) { next.addGrave(id) })
}

// Compact rewrites the journal with the live records.
func (s *Store) Compact() api.Errno {
	if e := s.check(); e != api.OK {
		return e
	}
	return s.rewrite(nil, func(*state, int) {})
}

// change makes an edit of the state durable by its record, and then makes it. The edit is told the position of the record.
func (s *Store) change(record []byte, edit func(next *state, at int)) api.Errno {
	at, e := s.journal.Append(record)
	if e == api.ErrFull {
		return s.rewrite(record, edit)
	}
	if e != api.OK {
		return e
	}
	edit(&s.state, at)
	return api.OK
}

// rewrite makes an edit of the state durable by a journal that contains the live records of the edited state alone. The record is that of the piece which the edit makes held, if there is one.
func (s *Store) rewrite(record []byte, edit func(next *state, at int)) api.Errno {
	// The edit is made on a copy: if there is an error, of all its effects only the loss of damaged pieces remains.
	next := s.copied()
	edit(&next, unwritten)
	records := [][]byte{incarnationRecord(next.incarnation)}
	for _, id := range sortedKeys(next.graves) {
		records = append(records, idRecord(kindGrave, id))
	}
	before := len(records)
	var kept []api.Digest
	for _, id := range sortedKeys(next.held) {
		piece := record
		if next.held[id].at != unwritten {
			r, e := s.examine(id)
			if e != api.OK {
				next.removePiece(id)
				continue
			}
			piece = pieceRecord(r.manifest, r.piece)
		}
		records = append(records, piece)
		kept = append(kept, id)
	}
	positions, e := s.journal.Rewrite(records)
	if e != api.OK {
		return e
	}
	for i, id := range kept {
		h := next.held[id]
		h.at = positions[before+i]
		next.held[id] = h
	}
	s.state = next
	return api.OK
}

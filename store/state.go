package store

import (
	"bytes"
	"maps"
	"slices"

	"stolon/api"
	"stolon/disk"
)

// unwritten stands for the position of a record that is not on the disk yet.
const unwritten = -1

// holding says where the record of a held piece is, and how much space it takes.
type holding struct {
	at     int // its position in the journal, or unwritten
	blocks int // of the record
	size   int // of the piece's Data
}

// newHolding returns the holding of a piece whose record is at a position.
func newHolding(at int, record []byte, p api.Piece) holding {
	return holding{at: at, blocks: disk.Cost(len(record)), size: len(p.Data)}
}

// state is what the records of a journal describe.
type state struct {
	incarnation uint64
	held        map[api.Digest]holding
	graves      map[api.Digest]bool
}

// replay returns the state that the entries of a journal describe.
func replay(entries []api.Entry) state {
	st := state{held: make(map[api.Digest]holding), graves: make(map[api.Digest]bool)}
	for _, entry := range entries {
		st.add(entry)
	}
	return st
}

// add replays one more entry. A record that is malformed has no effect.
func (st *state) add(entry api.Entry) {
	switch kindOf(entry.Data) {
	case kindIncarnation:
		if inc, ok := readIncarnation(entry.Data); ok {
			st.incarnation = max(st.incarnation, inc)
		}
	case kindPiece:
		if r, ok := readPiece(entry.Data); ok {
			st.addPiece(r.id, newHolding(entry.At, entry.Data, r.piece))
		}
	case kindDrop:
		if id, ok := readID(entry.Data); ok {
			st.removePiece(id)
		}
	case kindGrave:
		if id, ok := readID(entry.Data); ok {
			st.addGrave(id)
		}
	}
}

// addPiece makes an object held, unless it is buried or held already.
func (st *state) addPiece(id api.Digest, h holding) {
	if _, held := st.held[id]; !held && !st.graves[id] {
		st.held[id] = h
	}
}

// removePiece makes an object not held.
func (st *state) removePiece(id api.Digest) { delete(st.held, id) }

// addGrave makes an object buried and not held.
func (st *state) addGrave(id api.Digest) {
	st.graves[id] = true
	st.removePiece(id)
}

// bytesHeld returns the number of bytes of the Data of all held pieces.
func (st *state) bytesHeld() int {
	sum := 0
	for _, h := range st.held {
		sum += h.size
	}
	return sum
}

// copied returns a state that can be edited without a change of this one.
func (st *state) copied() state {
	return state{incarnation: st.incarnation, held: maps.Clone(st.held), graves: maps.Clone(st.graves)}
}

// sortedKeys returns the ids of a map in ascending order.
func sortedKeys[V any](m map[api.Digest]V) []api.Digest {
	ids := make([]api.Digest, 0, len(m))
	for id := range m {
		ids = append(ids, id)
	}
	slices.SortFunc(ids, func(a, b api.Digest) int { return bytes.Compare(a[:], b[:]) })
	return ids
}

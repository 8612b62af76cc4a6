package inventory

import (
	"math/bits"

	"stolon/api"
	"stolon/digest"
)

// The first byte of what is digested for a tree hash: a record and two tree hashes never look alike.
const (
	leafMark = 0
	nodeMark = 1
)

// Root returns the tree hash of records.
func Root(records []api.Record) (api.Digest, api.Errno) {
	leaves, e := leavesOf(records)
	if e != api.OK {
		return api.Digest{}, e
	}
	return treeHash(leaves), api.OK
}

// Prove returns the proof of a record of a list.
func Prove(records []api.Record, i int) ([]api.Digest, api.Errno) {
	leaves, e := leavesOf(records)
	if e != api.OK {
		return nil, e
	}
	if i < 0 || i >= len(leaves) {
		return nil, api.ErrArg
	}
	return proofOf(leaves, i), api.OK
}

// Verify reports whether a proof is right.
func Verify(root api.Digest, count, i int, r api.Record, proof []api.Digest) bool {
	if !Valid(r) || i < 0 || i >= count || count > api.MaxCount {
		return false
	}
	top, complete := climb(leafOf(r), count, i, proof)
	return complete && top == root
}

// leavesOf returns the tree hash of each record alone, or ErrArg if one is not valid.
func leavesOf(records []api.Record) ([]api.Digest, api.Errno) {
	leaves := make([]api.Digest, len(records))
	for i, r := range records {
		if !Valid(r) {
			return nil, api.ErrArg
		}
		leaves[i] = leafOf(r)
	}
	return leaves, api.OK
}

// leafOf returns the tree hash of one valid record.
func leafOf(r api.Record) api.Digest {
	b, _ := EncodeRecord(r)
	return digest.SHA256(append([]byte{leafMark}, b...))
}

// join returns the tree hash of a list from those of its two parts.
func join(first, others api.Digest) api.Digest {
	h := digest.NewHash()
	h.Write([]byte{nodeMark})
	h.Write(first[:])
	h.Write(others[:])
	return h.Sum()
}

// firstPart returns how many of n records, at least two, the first part of their tree has: the greatest power of two below n.
func firstPart(n int) int { return 1 << (bits.Len(uint(n-1)) - 1) }

// treeHash returns the tree hash of the records with these leaves.
func treeHash(leaves []api.Digest) api.Digest {
	switch len(leaves) {
	case 0:
		return digest.SHA256(nil)
	case 1:
		return leaves[0]
	}
	h := firstPart(len(leaves))
	return join(treeHash(leaves[:h]), treeHash(leaves[h:]))
}

// proofOf returns the proof of record i of the records with these leaves.
func proofOf(leaves []api.Digest, i int) []api.Digest {
	if len(leaves) == 1 {
		return nil
	}
	h := firstPart(len(leaves))
	if i < h {
		return append(proofOf(leaves[:h], i), treeHash(leaves[h:]))
	}
	return append(proofOf(leaves[h:], i-h), treeHash(leaves[:h]))
}

// climb returns the tree hash of count records that results from the leaf of record i and a proof, and whether the proof has just as many elements as that takes.
func climb(leaf api.Digest, count, i int, proof []api.Digest) (api.Digest, bool) {
	if count == 1 {
		return leaf, len(proof) == 0
	}
	if len(proof) == 0 {
		return api.Digest{}, false
	}
	below, side := proof[:len(proof)-1], proof[len(proof)-1]
	h := firstPart(count)
	if i < h {
		first, complete := climb(leaf, h, i, below)
		return join(first, side), complete
	}
	others, complete := climb(leaf, count-h, i-h, below)
	return join(side, others), complete
}

package swarm

import (
	"math"
	"slices"

	"stolon/api"
	"stolon/inventory"
	"stolon/member"
	"stolon/place"
)

// Settled reports whether the swarm is settled.
func (w *World) Settled() bool {
	running := w.Running()
	if len(running) == 0 {
		return false
	}
	records := w.Records(running[0])
	for _, i := range running {
		if !slices.Equal(member.Live(w.Table(i)), running) || !slices.Equal(w.Records(i), records) || w.isBusy(i) {
			return false
		}
	}
	known := inventory.New()
	known.Merge(records)
	return w.isPlaced(running, known) && w.isQuiet(known)
}

// isBusy reports whether a peer has a build, a shed or a pending operation.
func (w *World) isBusy(i int) bool {
	p := w.peerOf(i)
	return len(p.Builds()) > 0 || len(p.Sheds()) > 0 || len(p.Pending()) > 0
}

// isPlaced reports whether the chosen peers of each known object hold their pieces, all know it, and no running peer holds any other piece.
func (w *World) isPlaced(running []int, known *inventory.Inventory) bool {
	objects := known.Objects() // none of them has a grave, as a grave leaves no record of a piece
	for _, object := range objects {
		_, n := known.Demand(object)
		chosen := slices.Sorted(slices.Values(place.Chosen(object, running, n)))
		holders := filtered(running, func(i int) bool { return slices.Contains(w.Held(i), object) })
		named := filtered(running, func(i int) bool { return slices.Contains(known.Holders(object), i) })
		if !slices.Equal(holders, chosen) || !slices.Equal(named, chosen) {
			return false
		}
	}
	for _, i := range running {
		for _, object := range w.Held(i) {
			if !slices.Contains(objects, object) {
				return false
			}
		}
	}
	return true
}

// isQuiet reports whether no message is under way that is about an object, or that has records which are not known.
func (w *World) isQuiet(known *inventory.Inventory) bool {
	records := known.Records()
	for _, msg := range w.Network() {
		switch {
		case msg.Kind >= api.KindClaim:
			return false
		case msg.Kind == api.KindItems:
			known.Merge(msg.Records)
			if !slices.Equal(known.Records(), records) {
				return false
			}
		}
	}
	return true
}

// Bound returns the number of fair rounds after which a swarm is settled.
func Bound(peers, objects, n int) int {
	p, o, m := counted(peers), counted(objects), counted(n)
	return 120 + 16*p + 8*o*(p+1) + 36*m
}

// counted returns the nearest number that counts.
func counted(n int) int { return min(max(n, 0), math.MaxUint16) }

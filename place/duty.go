package place

import (
	"slices"

	"stolon/api"
)

// Duty returns what a peer has to do about an object.
func Duty(object api.Digest, self int, live []int, n int, held, buried bool) api.Duty {
	if buried && held {
		return api.DutyClear
	}
	if buried || n < 1 {
		return api.DutyNone
	}
	chosen := Chosen(object, live, n)
	wanted := slices.Contains(chosen, self)
	switch {
	case wanted && !held:
		return api.DutyBuild
	case held && !wanted && len(chosen) == n:
		return api.DutyShed
	}
	return api.DutyNone
}

// Sources returns the live holders other than the peer itself.
func Sources(self int, holders, live []int) []int {
	holding, living := newPeerSet(holders), newPeerSet(live)
	var sources []int
	for peer := range api.MaxPeers {
		if peer != self && holding[peer] && living[peer] {
			sources = append(sources, peer)
		}
	}
	return sources
}

// Covered reports whether a peer may drop its piece.
func Covered(object api.Digest, self, n int, keeps []int) bool {
	keeping := newPeerSet(keeps)
	better := 0
	for peer := range api.MaxPeers {
		if keeping[peer] && Better(object, peer, self) {
			better++
		}
	}
	return n >= 1 && better >= n
}

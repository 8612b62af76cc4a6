package place_test

import (
	"crypto/sha256"
	"math"
	"math/rand/v2"
	"slices"

	"stolon/api"
)

// This file has helpers, and a second, plainer implementation of the chapter's ranks, duties and claims, which follows it sentence by sentence.

// numbered returns the object of a number.
func numbered(n int) api.Digest { return sha256.Sum256([]byte{byte(n >> 8), byte(n)}) }

// strangeNumbers are no numbers of peers. Some are one modulo 256 or modulo 16.
func strangeNumbers() []int {
	return []int{-1, -3, -16, -253, -256, -512, 16, 17, 31, 99, 255, 256, 257, 259, 271, 1 << 32, math.MaxInt, math.MaxInt - 255, math.MinInt, math.MinInt + 3}
}

// randomList returns a list of peers, with repetitions and with numbers of no peer.
func randomList(r *rand.Rand) []int {
	var list []int
	for range r.IntN(24) {
		if r.IntN(6) == 0 {
			list = append(list, strangeNumbers()[r.IntN(len(strangeNumbers()))])
		} else {
			list = append(list, r.IntN(16))
		}
	}
	return list
}

// randomPeer returns mostly the number of a peer.
func randomPeer(r *rand.Rand) int {
	if r.IntN(10) == 0 {
		return strangeNumbers()[r.IntN(len(strangeNumbers()))]
	}
	return r.IntN(16)
}

// peersOf returns those of the peers 0 to count - 1 whose bits of a number are 1.
func peersOf(bits, count int) []int {
	var list []int
	for i := range count {
		if bits>>i&1 == 1 {
			list = append(list, i)
		}
	}
	return list
}

// modelScore returns the score of a peer.
func modelScore(object api.Digest, peer int) api.Digest {
	return sha256.Sum256(append(slices.Clone(object[:]), byte((peer%256+256)%256)))
}

// modelBetter tells whether peer a has a better rank than peer b.
func modelBetter(object api.Digest, a, b int) bool {
	x, y := modelScore(object, a), modelScore(object, b)
	return string(x[:]) < string(y[:]) || x == y && a < b
}

// modelPeers returns the peers of a list, each one once, in ascending order.
func modelPeers(list []int) []int {
	var peers []int
	for peer := 0; peer <= 15; peer++ {
		if slices.Contains(list, peer) {
			peers = append(peers, peer)
		}
	}
	return peers
}

// modelChosen returns the best n peers of a list: n times the best one that is left.
func modelChosen(object api.Digest, live []int, n int) []int {
	left := modelPeers(live)
	var chosen []int
	for len(chosen) < n && len(left) > 0 {
		best := 0
		for i := range left {
			if modelBetter(object, left[i], left[best]) {
				best = i
			}
		}
		chosen = append(chosen, left[best])
		left = slices.Delete(left, best, best+1)
	}
	return chosen
}

// modelDuty returns what a peer has to do.
func modelDuty(object api.Digest, self int, live []int, n int, held, buried bool) api.Duty {
	if buried {
		if held {
			return 3
		}
		return 0
	}
	if n < 1 {
		return 0
	}
	chosen := modelChosen(object, live, n)
	if slices.Contains(chosen, self) {
		if held {
			return 0
		}
		return 1
	}
	if held && len(chosen) == n {
		return 2
	}
	return 0
}

// modelCovered tells whether n peers of a list are better than a peer.
func modelCovered(object api.Digest, self, n int, keeps []int) bool {
	count := 0
	for _, peer := range modelPeers(keeps) {
		if modelBetter(object, peer, self) {
			count++
		}
	}
	return n >= 1 && count >= n
}

// modelClaim is a claim; of several ones of an object and a claimant the last one counts.
type modelClaim struct {
	object   api.Digest
	claimant int
	clock    uint64
}

// modelClaims is the claims that are remembered.
type modelClaims []modelClaim

// modelCurrent tells whether a claim is current.
func modelCurrent(claim modelClaim, clock uint64) bool {
	return clock >= claim.clock && clock-claim.clock < 12
}

func (c *modelClaims) note(object api.Digest, claimant int, clock uint64) {
	if claimant < 0 || claimant > 15 {
		return
	}
	*c = slices.DeleteFunc(*c, func(old modelClaim) bool { return old.object == object && old.claimant == claimant })
	*c = append(*c, modelClaim{object, claimant, clock})
}

func (c *modelClaims) sweep(clock uint64) {
	*c = slices.DeleteFunc(*c, func(old modelClaim) bool { return !modelCurrent(old, clock) })
}

func (c *modelClaims) claimants(object api.Digest) []int {
	var list []int
	for _, claim := range *c {
		if claim.object == object {
			list = append(list, claim.claimant)
		}
	}
	slices.Sort(list)
	return list
}

func (c *modelClaims) blocked(object api.Digest, self int, clock uint64, live, holders []int) bool {
	for _, claim := range *c {
		if claim.object == object && modelCurrent(claim, clock) && modelBetter(object, claim.claimant, self) &&
			slices.Contains(live, claim.claimant) && !slices.Contains(holders, claim.claimant) {
			return true
		}
	}
	return false
}

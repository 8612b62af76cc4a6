package place

import (
	"maps"
	"slices"

	"stolon/api"
)

// Claims remembers who builds its piece.
type Claims struct {
	noted map[api.Digest]map[int]uint64 // the clock of each claim, by its object and its claimant
}

// NewClaims returns a Claims without claims.
func NewClaims() *Claims {
	return &Claims{noted: make(map[api.Digest]map[int]uint64)}
}

// Note remembers a claim.
func (c *Claims) Note(object api.Digest, claimant int, clock uint64) {
	if c == nil || !isPeer(claimant) {
		return
	}
	claims := c.noted[object]
	if claims == nil {
		claims = make(map[int]uint64)
		c.noted[object] = claims
	}
	claims[claimant] = clock
}

// isCurrent reports whether a claim that was noted at a clock counts at another one.
func isCurrent(noted, clock uint64) bool {
	return clock >= noted && clock-noted < api.LeaseTicks
}

// Blocked reports whether a better-ranked peer builds its piece.
func (c *Claims) Blocked(object api.Digest, self int, clock uint64, live, holders []int) bool {
	if c == nil {
		return false
	}
	living, holding := newPeerSet(live), newPeerSet(holders)
	for claimant, noted := range c.noted[object] {
		if isCurrent(noted, clock) && living[claimant] && !holding[claimant] && Better(object, claimant, self) {
			return true
		}
	}
	return false
}

// Sweep forgets claims that are not current any more.
func (c *Claims) Sweep(clock uint64) {
	if c == nil {
		return
	}
	for object, claims := range c.noted {
		for claimant, noted := range claims {
			if !isCurrent(noted, clock) {
				delete(claims, claimant)
			}
		}
		// An object without claims would stay in memory for ever.
		if len(claims) == 0 {
			delete(c.noted, object)
		}
	}
}

// Claimants returns the claimants of an object.
func (c *Claims) Claimants(object api.Digest) []int {
	if c == nil {
		return nil
	}
	return slices.Sorted(maps.Keys(c.noted[object]))
}

package member

import "stolon/api"

// Valid reports whether a table is valid.
func Valid(t []api.Member) bool {
	for _, entry := range t {
		if entry.Status > api.Left || (entry.Inc == 0) != (entry.Status == api.Absent) {
			return false
		}
	}
	return len(t) >= 1 && len(t) <= api.MaxPeers
}

// Newer reports whether an entry is newer than another one.
func Newer(a, b api.Member) bool {
	if a.Inc != b.Inc {
		return a.Inc > b.Inc
	}
	return a.Status > b.Status
}

// Join returns the newer one of two entries.
func Join(a, b api.Member) api.Member {
	if Newer(b, a) {
		return b
	}
	return a
}

// Merge returns the Joins of the entries of two tables.
func Merge(a, b []api.Member) ([]api.Member, api.Errno) {
	if !Valid(a) || !Valid(b) {
		return nil, api.ErrArg
	}
	if len(a) != len(b) {
		return nil, api.ErrShape
	}
	merged := make([]api.Member, len(a))
	for i := range merged {
		merged[i] = Join(a[i], b[i])
	}
	return merged, api.OK
}

// Live returns the live peers of a table.
func Live(t []api.Member) []int {
	var peers []int
	for peer, entry := range t {
		if entry.Status == api.Alive || entry.Status == api.Suspect {
			peers = append(peers, peer)
		}
	}
	return peers
}

// SuspectWait returns the ticks after which a suspected peer is declared dead.
func SuspectWait(peers int) int {
	return 10 + 3*swarmSize(peers)
}

// Rounds returns the number of fair rounds after which all tables are right.
func Rounds(peers int) int {
	return 30 + 6*swarmSize(peers)
}

// swarmSize returns the nearest number of peers that a table can have, or 0.
func swarmSize(peers int) int {
	return min(max(peers, 0), api.MaxPeers)
}

package member

import (
	"slices"

	"stolon/api"
)

// Tick lets one unit of time pass.
func (m *Machine) Tick(draw uint64) []api.Message {
	if m == nil || m.hasLeft() {
		return nil
	}
	m.clock++
	messages := m.checkProbes(draw)
	m.checkSuspects()
	return m.complete(append(messages, m.probe()))
}

// checkProbes gives up the probes that are too old, and returns requests to help with those that others were not asked about yet.
func (m *Machine) checkProbes(draw uint64) []api.Message {
	var requests []api.Message
	for i := range m.probes {
		p := &m.probes[i]
		switch age := m.clock - p.Sent; {
		case age >= api.ProbeWait:
			m.suspect(p.Target)
		case age >= api.DirectWait && !p.Asked:
			p.Asked = true
			for _, helper := range m.helpers(draw, p.Target) {
				requests = append(requests, api.Message{Kind: api.KindPingReq, To: helper, Seq: p.Seq, Target: p.Target})
			}
		}
	}
	m.probes = slices.DeleteFunc(m.probes, func(p api.Probe) bool { return m.clock-p.Sent >= api.ProbeWait })
	return requests
}

// suspect makes a peer Suspect if it is Alive.
func (m *Machine) suspect(peer int) {
	if entry := m.table[peer]; entry.Status == api.Alive {
		m.set(peer, api.Member{Inc: entry.Inc, Status: api.Suspect})
	}
}

// helpers returns the peers that are asked to ping a target.
func (m *Machine) helpers(draw uint64, target int) []int {
	candidates := slices.DeleteFunc(Live(m.table), func(peer int) bool { return peer == m.self || peer == target })
	count := uint64(len(candidates))
	var chosen []int
	for i := range min(api.Helpers, count) {
		// Of draw the remainder alone is added to, as draw + i could be too great a number.
		chosen = append(chosen, candidates[(draw%count+i)%count])
	}
	return chosen
}

// checkSuspects declares dead the peers that have been suspected for long enough.
func (m *Machine) checkSuspects() {
	wait := uint64(SuspectWait(len(m.table)))
	for peer, entry := range m.table {
		if entry.Status == api.Suspect && m.clock-m.since[peer] >= wait {
			m.set(peer, api.Member{Inc: entry.Inc, Status: api.Dead})
		}
	}
}

// probe begins to probe the next peer and returns the ping.
func (m *Machine) probe() api.Message {
	m.pinged = m.following(m.pinged)
	if m.pinged == m.self {
		m.pinged = m.following(m.pinged)
	}
	m.lastSeq++
	m.probes = append(m.probes, api.Probe{Seq: m.lastSeq, Target: m.pinged, Sent: m.clock})
	return api.Message{Kind: api.KindPing, To: m.pinged, Seq: m.lastSeq, Origin: m.self}
}

// following returns the peer after a peer; the last one is followed by peer 0.
func (m *Machine) following(peer int) int {
	return (peer + 1) % len(m.table)
}

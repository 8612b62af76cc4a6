package member

import (
	"slices"

	"stolon/api"
)

// Receive takes a message into account and returns the messages that answer it.
func (m *Machine) Receive(msg api.Message) ([]api.Message, api.Errno) {
	if m == nil {
		return nil, api.ErrNil
	}
	if m.hasLeft() {
		return nil, api.ErrState
	}
	if !m.accepts(msg) {
		return nil, api.ErrArg
	}
	m.learn(msg.Table)
	return m.complete(m.answer(msg)), api.OK
}

// accepts reports whether a message is one that the machine can take into account.
func (m *Machine) accepts(msg api.Message) bool {
	var third int
	switch msg.Kind {
	case api.KindPing, api.KindAck:
		third = msg.Origin
	case api.KindPingReq:
		third = msg.Target
	default:
		return false
	}
	return m.isPeer(msg.From) && msg.From != m.self && msg.To == m.self &&
		len(msg.Table) == len(m.table) && Valid(msg.Table) && m.isPeer(third)
}

// isPeer reports whether a number is that of a peer of the swarm.
func (m *Machine) isPeer(number int) bool {
	return number >= 0 && number < len(m.table)
}

// learn merges the table of a message into the own one.
func (m *Machine) learn(table []api.Member) {
	for peer, entry := range table {
		switch {
		case peer != m.self:
			m.set(peer, Join(m.table[peer], entry))
		case Newer(entry, m.table[peer]):
			// The machine alone may change its own entry: it refutes the claim by Reincarnate.
			m.challenge = max(m.challenge, entry.Inc)
		}
	}
}

// answer does what the kind of a message asks for, after its table was merged.
func (m *Machine) answer(msg api.Message) []api.Message {
	switch {
	case msg.Kind == api.KindPing:
		return []api.Message{{Kind: api.KindAck, To: msg.From, Seq: msg.Seq, Origin: msg.Origin}}
	case msg.Kind == api.KindPingReq && msg.Target == m.self:
		return []api.Message{{Kind: api.KindAck, To: msg.From, Seq: msg.Seq, Origin: msg.From}}
	case msg.Kind == api.KindPingReq:
		return []api.Message{{Kind: api.KindPing, To: msg.Target, Seq: msg.Seq, Origin: msg.From}}
	case msg.Origin != m.self:
		return []api.Message{{Kind: api.KindAck, To: msg.Origin, Seq: msg.Seq, Origin: msg.Origin}}
	}
	m.probes = slices.DeleteFunc(m.probes, func(p api.Probe) bool { return p.Seq == msg.Seq })
	return nil
}

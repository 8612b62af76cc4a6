package swarm_test

import (
	"bytes"
	"slices"
	"testing"

	"stolon/api"
	"stolon/disk"
	"stolon/inventory"
	"stolon/peer"
	"stolon/place"
	"stolon/swarm"
	"stolon/wire"
)

// model is a second, plainer reading of the chapter: it goes through the events in one switch, and its network consists of messages.
type model struct {
	setup   api.Setup
	disks   []*disk.Disk
	peers   []*peer.Peer
	network []api.Message
	objects []api.Digest
	log     []api.Outcome
	faulty  []bool
	applied uint64
}

// newModel returns the model of a world in which nothing has happened.
func newModel(s api.Setup) *model {
	m := &model{setup: s, peers: make([]*peer.Peer, s.Peers), faulty: make([]bool, s.Peers)}
	for range s.Peers {
		d, _ := disk.NewDisk(s.Blocks)
		m.disks = append(m.disks, d)
	}
	return m
}

// runs reports whether a peer runs.
func (m *model) runs(i int) bool { return m.peers[i] != nil && m.peers[i].Running() }

// after adds what a call has returned to the network and to the log.
func (m *model) after(i int, l []api.Message) {
	m.network = append(m.network, l...)
	for _, r := range m.peers[i].Results() {
		m.log = append(m.log, api.Outcome{Peer: i, Result: r})
	}
}

// deliver delivers a message.
func (m *model) deliver(msg api.Message) {
	if m.runs(msg.To) {
		l, e := m.peers[msg.To].Receive(wire.Clone(msg))
		if e == api.OK {
			m.after(msg.To, l)
		}
	}
}

// mod returns a modulo n.
func mod(a, n int) int {
	if rest := a % n; rest < 0 {
		return rest + n
	}
	return a % n
}

// without returns a list without the element i.
func without[E any](l []E, i int) []E {
	var rest []E
	for j, x := range l {
		if j != i {
			rest = append(rest, x)
		}
	}
	return rest
}

// do lets an event happen.
func (m *model) do(e api.Event) bool {
	applies := false
	switch e.Kind {
	case api.EvDeliver, api.EvLose, api.EvCopy:
		applies = m.doMessage(e)
	case api.EvRound:
		m.round(e.Draw)
		applies = true
	default:
		if e.Kind >= 1 && e.Kind <= 13 && e.Peer >= 0 && e.Peer < m.setup.Peers {
			applies = m.doPeer(e, e.Peer)
		}
	}
	if applies {
		m.applied++
	}
	return applies
}

// doMessage lets an event happen that chooses a message.
func (m *model) doMessage(e api.Event) bool {
	if len(m.network) == 0 {
		return false
	}
	i := mod(e.A, len(m.network))
	msg := m.network[i]
	if e.Kind != api.EvCopy {
		m.network = without(m.network, i)
	}
	if e.Kind != api.EvLose {
		m.deliver(msg)
	}
	return true
}

// doPeer lets an event of a peer happen.
func (m *model) doPeer(e api.Event, i int) bool {
	p, d := m.peers[i], m.disks[i]
	if (e.Kind == api.EvStart || e.Kind == api.EvWipe) == m.runs(i) {
		return false
	}
	var object api.Digest
	if e.Kind == api.EvRestore || e.Kind == api.EvDelete || e.Kind == api.EvRot {
		if len(m.objects) == 0 {
			return false
		}
		object = m.objects[mod(e.A, len(m.objects))]
	}
	var l []api.Message
	switch e.Kind {
	case api.EvTick:
		l, _ = p.Tick(e.Draw)
	case api.EvBackup:
		_, id, sent, code := p.Backup(e.A, e.B, e.Data)
		if code != api.OK {
			return code == api.ErrDown
		}
		l = sent
		if !slices.Contains(m.objects, id) {
			m.objects = append(m.objects, id)
		}
	case api.EvRestore:
		_, l, _ = p.Restore(object)
	case api.EvDelete:
		p.Delete(object)
	case api.EvLeave:
		l, _ = p.Leave()
	case api.EvStart:
		d.PowerOn()
		m.peers[i], _ = peer.Start(api.Config{Self: i, Peers: m.setup.Peers, Quota: m.setup.Quota}, d)
		return true
	case api.EvCrash:
		d.PowerOff()
		return true
	case api.EvArm:
		return d.Arm(e.A, e.B) == api.OK
	case api.EvWipe:
		d.Wipe()
		m.peers[i] = nil
		m.faulty[i] = true
		return true
	case api.EvRot:
		first, n, code := p.Where(object)
		if code != api.OK || e.Draw%256 == 0 {
			return false
		}
		b := mod(e.B, 128*n)
		d.Rot(first+b/128, b%128, byte(e.Draw%256))
		m.faulty[i] = true
		return true
	}
	m.after(i, l)
	return true
}

// round makes a fair round.
func (m *model) round(draw uint64) {
	l := m.network
	m.network = nil
	for i, p := range m.peers {
		if m.runs(i) {
			sent, _ := p.Tick(draw)
			m.after(i, sent)
		}
	}
	x := draw
	for len(l) > 0 {
		i := int(x % uint64(len(l)))
		msg := l[i]
		l = without(l, i)
		m.deliver(msg)
		x = x*6364136223846793005 + 1442695040888963407
	}
}

// running returns the peers that run.
func (m *model) running() []int {
	var l []int
	for i := range m.peers {
		if m.runs(i) {
			l = append(l, i)
		}
	}
	return l
}

// violated returns the conditions of Settled that do not hold, in ascending order.
func (m *model) violated() []int {
	running := m.running()
	if len(running) == 0 {
		return []int{1}
	}
	var l []int
	holds := func(condition int, yes bool) {
		if !yes && !slices.Contains(l, condition) {
			l = append(l, condition)
		}
	}
	records := m.peers[running[0]].Records()
	for _, i := range running {
		var live []int
		for j, entry := range m.peers[i].Table() {
			if entry.Status == api.Alive || entry.Status == api.Suspect {
				live = append(live, j)
			}
		}
		holds(1, slices.Equal(live, running))
		holds(2, slices.Equal(m.peers[i].Records(), records))
		holds(4, len(m.peers[i].Builds())+len(m.peers[i].Sheds())+len(m.peers[i].Pending()) == 0)
		holds(3, m.isPlaced(running, records))
	}
	for _, msg := range m.network {
		merged := inventory.New()
		merged.Merge(records)
		if msg.Kind == api.KindItems {
			merged.Merge(msg.Records)
		}
		holds(5, msg.Kind < 6 && slices.Equal(merged.Records(), records))
	}
	slices.Sort(l)
	return l
}

// isPlaced reports whether the condition 3 of Settled holds.
func (m *model) isPlaced(running []int, records []api.Record) bool {
	demand := make(map[api.Digest]api.Record) // the Held record of each object with the smallest holder
	named := make(map[api.Digest][]int)
	for _, r := range records {
		if r.Kind != api.RecordPiece || !r.Held || slices.Contains(records, api.Record{Kind: api.RecordGrave, Object: r.Object}) {
			continue
		}
		if first, found := demand[r.Object]; !found || r.Holder < first.Holder {
			demand[r.Object] = r
		}
		if slices.Contains(running, r.Holder) {
			named[r.Object] = append(named[r.Object], r.Holder)
		}
	}
	for object, r := range demand {
		chosen := place.Chosen(object, running, r.N)
		slices.Sort(chosen)
		slices.Sort(named[object])
		var holders []int
		for _, i := range running {
			if m.peers[i].Status(object).Held {
				holders = append(holders, i)
			}
		}
		if !slices.Equal(holders, chosen) || !slices.Equal(named[object], chosen) {
			return false
		}
	}
	for _, i := range running {
		for _, object := range m.peers[i].Held() {
			if _, found := demand[object]; !found {
				return false
			}
		}
	}
	return true
}

// acknowledged returns the objects of which a backup has succeeded.
func (m *model) acknowledged() []api.Digest {
	var l []api.Digest
	for _, object := range m.objects {
		for _, x := range m.log {
			if x.Result.Kind == api.OpBackup && x.Result.Code == api.OK && x.Result.Object == object {
				l = append(l, object)
				break
			}
		}
	}
	return l
}

// sameStatus reports whether two statuses have the same fields.
func sameStatus(a, b api.ObjectStatus) bool {
	return a.Held == b.Held && a.Buried == b.Buried && a.K == b.K && a.N == b.N && a.Live == b.Live && slices.Equal(a.Holders, b.Holders)
}

// sameLogs reports whether two logs have the same outcomes.
func sameLogs(a, b []api.Outcome) bool {
	return slices.EqualFunc(a, b, func(x, y api.Outcome) bool {
		return x.Peer == y.Peer && x.Result.Ticket == y.Result.Ticket && x.Result.Kind == y.Result.Kind &&
			x.Result.Code == y.Result.Code && x.Result.Object == y.Result.Object && bytes.Equal(x.Result.Data, y.Result.Data)
	})
}

// expectLike checks all that can be seen of a world against its model.
func (m *model) expectLike(t *testing.T, w *swarm.World) {
	t.Helper()
	if got := w.Network(); !slices.EqualFunc(got, m.network, wire.Equal) {
		t.Fatalf("the network is\n%v instead of\n%v", got, m.network)
	}
	var faulty []int
	for i, p := range m.peers {
		if m.faulty[i] {
			faulty = append(faulty, i)
		}
		if !slices.Equal(w.Table(i), p.Table()) || !slices.Equal(w.Records(i), p.Records()) || !slices.Equal(w.Held(i), p.Held()) ||
			w.Incarnation(i) != p.Incarnation() || !bytes.Equal(w.Image(i), m.disks[i].Image()) {
			t.Fatal("peer", i, "is in another state")
		}
		for _, object := range append(m.objects, api.Digest{}) {
			if got, want := w.Status(i, object), p.Status(object); !sameStatus(got, want) {
				t.Fatalf("the status at peer %d is %v instead of %v", i, got, want)
			}
		}
	}
	if !slices.Equal(w.Running(), m.running()) || !slices.Equal(w.Faulty(), faulty) || !slices.Equal(w.Objects(), m.objects) ||
		!sameLogs(w.Log(), m.log) || !slices.Equal(w.Acknowledged(), m.acknowledged()) || w.Applied() != m.applied {
		t.Fatal("other lists", w.Running(), w.Faulty(), w.Objects(), w.Log(), w.Acknowledged(), w.Applied())
	}
	if violated := m.violated(); w.Settled() != (len(violated) == 0) {
		t.Fatal("Settled returns", w.Settled(), "but violated is", violated)
	}
}

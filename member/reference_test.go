package member_test

import (
	"math/big"
	"reflect"
	"slices"
	"testing"

	"stolon/api"
	"stolon/member"
)

// This file has helpers, and a second, plainer implementation of the machine, which follows the chapter sentence by sentence.

// newMachine returns a new machine.
func newMachine(t *testing.T, self, peers int, inc uint64) *member.Machine {
	t.Helper()
	m, e := member.New(self, peers, inc)
	if e != api.OK || m == nil {
		t.Fatal("New", self, peers, inc, e)
	}
	return m
}

// receive lets a machine receive a message that it accepts.
func receive(t *testing.T, m *member.Machine, msg api.Message) []api.Message {
	t.Helper()
	list, e := m.Receive(msg)
	if e != api.OK {
		t.Fatalf("Receive of %v returns %d", msg, e)
	}
	return list
}

// tell lets the machine of peer `self` learn a table, from an Ack for no probe.
func tell(t *testing.T, m *member.Machine, self int, table ...api.Member) {
	t.Helper()
	from := 0
	if self == 0 {
		from = 1
	}
	if list := receive(t, m, api.Message{Kind: api.KindAck, From: from, To: self, Origin: self, Table: table}); len(list) != 0 {
		t.Fatal("an Ack for the machine itself is answered", list)
	}
}

// sameMessages reports whether two lists contain the same messages; a nil list is an empty one.
func sameMessages(a, b []api.Message) bool {
	return slices.EqualFunc(a, b, func(a, b api.Message) bool { return reflect.DeepEqual(a, b) })
}

// expectMessages checks messages, all their fields.
func expectMessages(t *testing.T, name string, got []api.Message, want ...api.Message) {
	t.Helper()
	if !sameMessages(got, want) {
		t.Fatalf("%s: the messages are %v instead of %v", name, got, want)
	}
}

// expectEntry checks the entry of a peer.
func expectEntry(t *testing.T, m *member.Machine, peer int, want api.Member) {
	t.Helper()
	if got := m.Table()[peer]; got != want {
		t.Fatalf("at the clock %d, the entry of %d is %v instead of %v", m.Clock(), peer, got, want)
	}
}

// view is what can be seen of a machine.
type view struct {
	Table     []api.Member
	Live      []int
	Clock     uint64
	Probes    []api.Probe
	Challenge uint64
}

// look returns what can be seen of a machine.
func look(m *member.Machine) view {
	return view{m.Table(), append([]int{}, m.Live()...), m.Clock(), append([]api.Probe{}, m.Probes()...), m.Challenge()}
}

// expectView checks all that can be seen of a machine.
func expectView(t *testing.T, name string, m *member.Machine, want view) {
	t.Helper()
	if got := look(m); !reflect.DeepEqual(got, want) {
		t.Fatalf("%s: the machine is %v instead of %v", name, got, want)
	}
}

// model is a machine as the chapter describes it.
type model struct {
	self, peers int
	table       []api.Member
	came        map[int]uint64
	clock       uint64
	probes      map[uint64]api.Probe
	number      uint64
	pinged      int
	challenge   uint64
	left        bool
}

// newModel returns the model of a new machine.
func newModel(self, peers int, inc uint64) *model {
	o := &model{self: self, peers: peers, table: make([]api.Member, peers), came: map[int]uint64{}, probes: map[uint64]api.Probe{}, pinged: self}
	o.table[self] = entry(inc, api.Alive)
	return o
}

// view returns what can be seen of the model.
func (o *model) view() view {
	return view{slices.Clone(o.table), o.live(), o.clock, o.pending(), o.challenge}
}

// live returns the live peers.
func (o *model) live() []int {
	list := []int{}
	for i := range o.peers {
		if s := o.table[i].Status; s == 1 || s == 2 {
			list = append(list, i)
		}
	}
	return list
}

// pending returns the pending probes in the order of their numbers.
func (o *model) pending() []api.Probe {
	list := []api.Probe{}
	for seq := range o.number + 1 {
		if p, ok := o.probes[seq]; ok {
			list = append(list, p)
		}
	}
	return list
}

// noteSuspects notes the clock for all suspected peers whose entries were others before.
func (o *model) noteSuspects(before []api.Member) {
	for i := range o.peers {
		if i != o.self && o.table[i].Status == api.Suspect && o.table[i] != before[i] {
			o.came[i] = o.clock
		}
	}
}

// send gives messages a sender and a table.
func (o *model) send(list []api.Message) []api.Message {
	for i := range list {
		list[i].From, list[i].Table = o.self, slices.Clone(o.table)
	}
	return list
}

// modulo returns draw + i modulo m.
func modulo(draw uint64, i, m int) int {
	sum := new(big.Int).Add(new(big.Int).SetUint64(draw), big.NewInt(int64(i)))
	return int(sum.Mod(sum, big.NewInt(int64(m))).Int64())
}

// tick is P5.5.
func (o *model) tick(draw uint64) []api.Message {
	if o.left {
		return nil
	}
	var list []api.Message
	o.clock++
	before := slices.Clone(o.table)
	for _, p := range o.pending() {
		age := o.clock - p.Sent
		if age >= 10 {
			delete(o.probes, p.Seq)
			if o.table[p.Target].Status == api.Alive {
				o.table[p.Target].Status = api.Suspect
			}
		} else if age >= 4 && !p.Asked {
			p.Asked = true
			o.probes[p.Seq] = p
			var c []int
			for _, i := range o.live() {
				if i != o.self && i != p.Target {
					c = append(c, i)
				}
			}
			for i := 0; i < 2 && i < len(c); i++ {
				list = append(list, api.Message{Kind: api.KindPingReq, To: c[modulo(draw, i, len(c))], Seq: p.Seq, Target: p.Target})
			}
		}
	}
	o.noteSuspects(before)
	for i := range o.peers {
		if i != o.self && o.table[i].Status == api.Suspect && o.clock-o.came[i] >= uint64(10+3*o.peers) {
			o.table[i].Status = api.Dead
		}
	}
	for {
		o.pinged++
		if o.pinged == o.peers {
			o.pinged = 0
		}
		if o.pinged != o.self {
			break
		}
	}
	o.number++
	o.probes[o.number] = api.Probe{Seq: o.number, Target: o.pinged, Sent: o.clock}
	list = append(list, api.Message{Kind: api.KindPing, To: o.pinged, Seq: o.number, Origin: o.self})
	return o.send(list)
}

// accepts tells what Receive says of a message.
func (o *model) accepts(msg api.Message) api.Errno {
	number := func(i int) bool { return 0 <= i && i < o.peers }
	if o.left {
		return api.ErrState
	}
	if msg.Kind < 1 || msg.Kind > 3 || !number(msg.From) || msg.From == o.self || msg.To != o.self || len(msg.Table) != o.peers {
		return api.ErrArg
	}
	for _, a := range msg.Table {
		if a.Status > 4 || a.Inc == 0 && a.Status != 0 || a.Inc != 0 && a.Status == 0 {
			return api.ErrArg
		}
	}
	if msg.Kind == api.KindPingReq && !number(msg.Target) || msg.Kind != api.KindPingReq && !number(msg.Origin) {
		return api.ErrArg
	}
	return api.OK
}

// receive is P5.6.
func (o *model) receive(msg api.Message) ([]api.Message, api.Errno) {
	if e := o.accepts(msg); e != api.OK {
		return nil, e
	}
	before := slices.Clone(o.table)
	for i, b := range msg.Table {
		a := o.table[i]
		if b.Inc < a.Inc || b.Inc == a.Inc && b.Status <= a.Status {
			continue
		}
		if i != o.self {
			o.table[i] = b
		} else if b.Inc > o.challenge {
			o.challenge = b.Inc
		}
	}
	o.noteSuspects(before)
	var out api.Message
	switch {
	case msg.Kind == api.KindPing:
		out = api.Message{Kind: api.KindAck, To: msg.From, Seq: msg.Seq, Origin: msg.Origin}
	case msg.Kind == api.KindPingReq && msg.Target == o.self:
		out = api.Message{Kind: api.KindAck, To: msg.From, Seq: msg.Seq, Origin: msg.From}
	case msg.Kind == api.KindPingReq:
		out = api.Message{Kind: api.KindPing, To: msg.Target, Seq: msg.Seq, Origin: msg.From}
	case msg.Origin != o.self:
		out = api.Message{Kind: api.KindAck, To: msg.Origin, Seq: msg.Seq, Origin: msg.Origin}
	default:
		delete(o.probes, msg.Seq)
		return nil, api.OK
	}
	return o.send([]api.Message{out}), api.OK
}

// reincarnate is P5.8.
func (o *model) reincarnate(inc uint64) api.Errno {
	if o.left {
		return api.ErrState
	}
	if inc <= o.table[o.self].Inc || inc <= o.challenge {
		return api.ErrArg
	}
	o.table[o.self], o.challenge = entry(inc, api.Alive), 0
	return api.OK
}

// leave is P5.9.
func (o *model) leave() []api.Message {
	if o.left {
		return nil
	}
	o.left = true
	o.table[o.self].Status = api.Left
	var list []api.Message
	for _, i := range o.live() {
		list = append(list, api.Message{Kind: api.KindAck, To: i, Origin: i})
	}
	return o.send(list)
}
